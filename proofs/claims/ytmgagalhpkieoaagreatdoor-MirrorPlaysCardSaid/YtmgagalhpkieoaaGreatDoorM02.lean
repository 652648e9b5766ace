/- A disk as plain data, and the memory that holds it. -/
import Derived.Test.YtmgagalhpkieoaaGreatDoorM01
import Derived.Maps.OwnSet
import Derived.Maps.Views
import Derived.OpenShut
namespace Go.Proofs.YtmgagalhpkieoaaGreatDoor
open Go.RowKit

abbrev d_Bs := List (BitVec 8)
def zeros : d_Bs := List.replicate 512 0
theorem zeros_length : zeros.length = 512 := List.length_replicate

structure Bk where
  b : d_Bs
  bad : Bool
  stuck : Bool
theorem Bk.ext' {x y : Bk} (h1 : x.b = y.b) (h2 : x.bad = y.bad) (h3 : x.stuck = y.stuck) : x = y := by cases x; cases y; simp_all
def blank : Bk := ⟨zeros, false, false⟩
def bcells (k : Bk) : List Value := k.b.map V8 ++ [Value.bool k.bad, Value.bool k.stuck]
def BV (k : Bk) : Value := .agg (bcells k).toArray
def DT (k : Bk) : DataW Unit := .agg [.lit (.string (bstr k.b).data.toList), .lit (.bool k.bad), .lit (.bool k.stuck)]
theorem v8_inj {l m : d_Bs} (h : l.map V8 = m.map V8) : l = m := by
  refine (List.map_inj_right (f := V8) fun x y hxy => ?_).1 h
  simp at hxy
  exact n8_inj hxy
theorem BV_inj {k k' : Bk} (h : k.b.length = 512) (h' : k'.b.length = 512) (e : BV k = BV k') : k = k' := by
  unfold BV at e
  have e0 : bcells k = bcells k' := by
    have := Value.agg.inj e
    simpa using congrArg Array.toList this
  unfold bcells at e0
  have := List.append_inj e0 (by simp [h, h'])
  obtain ⟨e1, e2⟩ := this
  simp at e2
  exact Bk.ext' (v8_inj e1) e2.1 e2.2
theorem DT_inj {k k' : Bk} (e : DT k = DT k') : k = k' := by
  unfold DT at e
  simp only [DataW.agg.injEq, List.cons.injEq, DataW.lit.injEq, Lit.string.injEq, Lit.bool.injEq, and_true] at e
  refine Bk.ext' (bstr_inj _ _ ?_) e.2.1 e.2.2
  exact ByteArray.ext (Array.toList_inj.1 e.1)
open Classical in
noncomputable def RB (v : Value) : Option (DataW Unit × List MemPlace) :=
  if h : ∃ k : Bk, k.b.length = 512 ∧ v = BV k then some (DT h.choose, []) else none
theorem RB_mk {k : Bk} (h : k.b.length = 512) : RB (BV k) = some (DT k, []) := by
  have hx : ∃ k' : Bk, k'.b.length = 512 ∧ BV k = BV k' := ⟨k, h, rfl⟩
  unfold RB
  rw [dif_pos hx]
  rw [← BV_inj h hx.choose_spec.1 hx.choose_spec.2]
theorem RB_inv {v : Value} {z : DataW Unit × List MemPlace} (h : RB v = some z) : ∃ k : Bk, k.b.length = 512 ∧ v = BV k ∧ z = (DT k, []) := by
  unfold RB at h
  split at h
  · rename_i hx
    cases h
    exact ⟨_, hx.choose_spec.1, hx.choose_spec.2, rfl⟩
  · cases h

theorem zero89 (w : World) : (zeroValue 156).run Tryz.prog w = .ok (BV blank) w := by kernel_rfl
theorem keyed41 : Maps.Keyed Tryz.prog 52 := Maps.int_keyed Tryz.underlying52
def Upd (m : Nat → Bk) (a : Nat) (k : Bk) : Nat → Bk := fun x => if x = a then k else m x

theorem len_of_nodup {l m : List Int} (hd : l.Pairwise (· ≠ ·)) (hs : ∀ x ∈ l, x ∈ m) : l.length ≤ m.length := by
  induction l generalizing m with
  | nil => simp
  | cons x l ih =>
    obtain ⟨h1, h2⟩ := List.pairwise_cons.1 hd
    have hx : x ∈ m := hs x (by simp)
    have := ih (m := m.erase x) h2 (fun y hy => (List.mem_erase_of_ne (fun e => h1 y hy e.symm)).2 (hs y (by simp [hy])))
    have hlen := List.length_erase_of_mem hx
    have hpos : 0 < m.length := List.length_pos_of_mem hx
    simp only [List.length_cons]
    omega
theorem owns_bound {w : World} {M n : Nat} {D : DataW Unit} (h : w.ownsMap Tryz.prog 52 RB M n D) : w.ownsMap Tryz.prog 52 RB M 65536 D := by
  obtain ⟨es, clock, hb, F, hs, hD⟩ := h
  refine ⟨es, clock, hb, F, ?_, hD⟩
  have hn : es.toList.Pairwise (fun x y => x.key ≠ y.key) := ((Go.MapKept.stamped_iff es clock).1 F.stamped).2.2
  have hk : ∀ x ∈ es.toList, ∃ a : Int, x.key = .int .u16 a ∧ 0 ≤ a ∧ a < 65536 := by
    intro x hx
    obtain ⟨y, hy⟩ := F.reads x hx
    have h1 := Go.WideElems.rd_key hy
    generalize x.key = kv at h1
    cases kv <;> simp [keyOf, Tryz.underlying52, mapKey] at h1
    rename_i q a
    obtain ⟨⟨rfl, hw⟩, _⟩ := h1
    refine ⟨a, rfl, ?_⟩
    have := bounds_u16 hw
    omega
  have hl := len_of_nodup (l := es.toList.map (fun x => match x.key with | .int _ a => a | _ => 0)) (m := (List.range 65536).map (fun i : Nat => (i : Int))) (by
    rw [List.pairwise_map]
    refine (List.Pairwise.imp_of_mem (R := fun x y => x.key ≠ y.key) ?_ hn)
    intro x y hx hy hne e
    obtain ⟨a, ha, _⟩ := hk x hx
    obtain ⟨b, hb, _⟩ := hk y hy
    rw [ha, hb] at hne e
    simp only at e
    exact hne (by rw [e])) (by
    intro z hz
    obtain ⟨x, hx, rfl⟩ := List.mem_map.1 hz
    obtain ⟨a, ha, h0, h1⟩ := hk x hx
    rw [ha]
    exact List.mem_map.2 ⟨a.toNat, by simp; omega, by simp; omega⟩)
  simpa using hl

def MapAt (w : World) (M : Nat) (m : Nat → Bk) : Prop :=
  ∃ D : DataW Unit, w.ownsMap Tryz.prog 52 RB M 65536 D ∧ (∀ a : Nat, a < 65536 → D.atKey (.int .u16 a) (DT blank) = DT (m a)) ∧ ∀ a, (m a).b.length = 512
theorem MapAt.lt {w : World} {M : Nat} {m : Nat → Bk} (h : MapAt w M m) : M < w.heap.size := by obtain ⟨_, h, _⟩ := h; exact h.lt
theorem MapAt.noBlk {w : World} {M : Nat} {m : Nat → Bk} (h : MapAt w M m) {cs : List Value} {t : TypeId} : ¬ Blk w M cs t := by
  obtain ⟨_, ⟨es, c, hb, _⟩, _⟩ := h
  unfold Blk
  rw [hb]
  intro e; cases e
theorem MapAt.kept {w w' : World} {M : Nat} {m : Nat → Bk} (h : MapAt w M m) (hb : w'.heap[M]? = w.heap[M]?) : MapAt w' M m := by
  obtain ⟨D, ⟨es, c, h1, h2⟩, h3⟩ := h
  exact ⟨D, ⟨es, c, hb.trans h1, h2⟩, h3⟩
theorem MapAt.chg {F : Nat → Prop} {w w' : World} {M : Nat} {m : Nat → Bk} (h : MapAt w M m) (hc : Chg F w w') (hn : ¬ F M) : MapAt w' M m := h.kept (hc.block M h.lt hn)
theorem MapAt.made (w : World) : MapAt (w.alloc (.map #[] 0)) w.heap.size (fun _ => blank) :=
  ⟨.map [], (World.ownsMap_made w _ _ _).mono (Nat.zero_le _), fun _ _ => rfl, fun _ => zeros_length⟩
theorem wf16 {a : Nat} (h : a < 65536) : (Lit.int .u16 (a : Int)).wf = true := by
  simp [Lit.wf, IntKind.min, IntKind.max, IntKind.signed, IntKind.bits]; omega
theorem MapAt.look {w : World} {M a : Nat} {m : Nat → Bk} (h : MapAt w M m) (ha : a < 65536) : (Instr.lookup 139 (.map (some M)) (.int .u16 (a : Int)) false).run Tryz.prog w = .ok (BV (m a)) w := by
  obtain ⟨D, h1, h2, h3⟩ := h
  obtain ⟨v, ps, hrun, hv⟩ := h1.lookup keyed41 Tryz.underlying139 (zero89 w) (RB_mk zeros_length) (Maps.keyOf_int_mk Tryz.underlying52 (wf16 ha))
  obtain ⟨k, hk, rfl, hz⟩ := RB_inv hv
  rw [h2 a ha] at hz
  simp only [Prod.mk.injEq] at hz
  rw [hrun, ← DT_inj hz.1]
theorem MapAt.put {w : World} {M a : Nat} {m : Nat → Bk} (h : MapAt w M m) (ha : a < 65536) {k : Bk} (hk : k.b.length = 512) :
    ∃ w', (Instr.mapUpdate 139 (.map (some M)) (.int .u16 (a : Int)) (BV k)).run Tryz.prog w = .ok () w' ∧ MapAt w' M (Upd m a k) ∧ w.grownBy w' (some M) := by
  obtain ⟨D, h1, h2, h3⟩ := h
  obtain ⟨w', hrun, ho, hg⟩ := h1.update keyed41 Tryz.underlying139 (by unfold maxLen; omega) (Maps.keyOf_int_mk Tryz.underlying52 (wf16 ha)) (RB_mk hk)
  have hm : Maps.IsMap D := by obtain ⟨es, c, _, _, _, rfl⟩ := h1; exact ⟨_, rfl⟩
  refine ⟨w', hrun, ⟨_, owns_bound ho, fun x hx => ?_, fun x => ?_⟩, hg⟩
  · unfold Upd
    by_cases e : x = a
    · subst e
      rw [if_pos rfl, Maps.atKey_put_same hm (keyed41.key (Maps.keyOf_int_mk Tryz.underlying52 (wf16 ha)))]
    · rw [if_neg e, Maps.atKey_put_other (by intro e1; simp at e1; omega)]
      exact h2 x hx
  · unfold Upd; split
    · exact hk
    · exact h3 x
end Go.Proofs.YtmgagalhpkieoaaGreatDoor
/- Power, and a disk: plain, and in memory; the methods that look, and those of the power. -/
namespace Go.Proofs.YtmgagalhpkieoaaGreatDoor
open Go.RowKit

structure Pw where
  on : Bool
  fuse : Int
def Pw.step (p : Pw) : Bool × Pw :=
  if p.on = false then (false, p) else if p.fuse = 0 then (false, ⟨false, -1⟩) else if 0 < p.fuse then (true, ⟨true, p.fuse - 1⟩) else (true, p)
def Pw.set (p : Pw) (n : Int) : Pw := if p.on then ⟨true, max n (-1)⟩ else p
structure PwAt (w : World) (Q : Nat) (p : Pw) : Prop where
  blk : Blk w Q [.bool p.on, .int .i64 p.fuse] 134
  lo : -1 ≤ p.fuse
  hi : p.fuse ≤ 9223372036854775807
theorem PwAt.chg {F : Nat → Prop} {w w' : World} {Q : Nat} {p : Pw} (h : PwAt w Q p) (hc : Chg F w w') (hn : ¬ F Q) : PwAt w' Q p := ⟨h.blk.chg hc hn, h.lo, h.hi⟩
theorem PwAt.c0 {w : World} {Q : Nat} {p : Pw} (h : PwAt w Q p) : w.cell? ⟨Q, 0, none⟩ = some (.bool p.on) := h.blk.cell rfl
theorem PwAt.c1 {w : World} {Q : Nat} {p : Pw} (h : PwAt w Q p) : w.cell? ⟨Q, 1, none⟩ = some (.int .i64 p.fuse) := h.blk.cell rfl

theorem on_any (w : World) : Calls Tryz.prog 37 #[] w fun e w' => ∃ Q, e = .returned (.pointer (some ⟨Q, 0, none⟩)) ∧ w.heap.size ≤ Q ∧ Q < w'.heap.size ∧ PwAt w' Q ⟨true, -1⟩ ∧ Below w.heap.size w w' := by
  go_enter Tryz.func37, Tryz.ntmps37
  go_wp2
  go_ret
  exact ⟨_, rfl, Nat.le_refl _, by simp, ⟨Blk.new' _ _ _ _ _ rfl rfl, by simp, by simp⟩, (Below.refl _ _).alloc (Nat.le_refl _) _⟩
theorem d_is_any (Q : Nat) (p : Pw) (w : World) (h : PwAt w Q p) : Calls Tryz.prog 20 #[.pointer (some ⟨Q, 0, none⟩)] w fun e w' => e = .returned (.bool p.on) ∧ w = w' := by
  have c0 := h.c0
  clear h
  go_enter Tryz.func20, Tryz.ntmps20
  go_wp2
  go_ret
  exact ⟨rfl, rfl⟩
theorem PwAt.set1 {w : World} {Q : Nat} {p : Pw} (h : PwAt w Q p) (f : Int) (h1 : -1 ≤ f) (h2 : f ≤ 9223372036854775807) : PwAt (w.setCell ⟨Q, 1, none⟩ (.int .i64 f)) Q ⟨p.on, f⟩ := ⟨h.blk.set 1 _, h1, h2⟩
theorem PwAt.set01 {w : World} {Q : Nat} {p : Pw} (h : PwAt w Q p) (b : Bool) (f : Int) (h1 : -1 ≤ f) (h2 : f ≤ 9223372036854775807) : PwAt ((w.setCell ⟨Q, 0, none⟩ (.bool b)).setCell ⟨Q, 1, none⟩ (.int .i64 f)) Q ⟨b, f⟩ := ⟨(h.blk.set 0 _).set 1 _, h1, h2⟩
theorem chgQ {w : World} (Q : Nat) (j : Nat) (v : Value) : Chg (fun k => k = Q) w (w.setCell ⟨Q, j, none⟩ v) := (Chg.refl (fun k => k = Q) w).setCell (.inl rfl) j v
theorem fuse_any (Q : Nat) (p : Pw) (n : Int) (w : World) (h : PwAt w Q p) (hn : n ≤ 9223372036854775807) : Calls Tryz.prog 59 #[.pointer (some ⟨Q, 0, none⟩), .int .i64 n] w fun e w' => e = .returned (.tuple #[]) ∧ PwAt w' Q (p.set n) ∧ Chg (fun k => k = Q) w w' := by
  have H := Lib.hid h
  have c1 := h.c1
  have f1 := h.blk.free 1
  clear h
  obtain ⟨on, fu⟩ := p
  go_enter Tryz.func59, Tryz.ntmps59
  cases on
  · go_wp2_with (go_at_call 20; refine (d_is_any _ _ _ H.out).mono ?_; rintro e w' ⟨rfl, rfl⟩)
    go_end0
    exact ⟨rfl, H.out, Chg.refl _ _⟩
  · go_wp2_with (go_at_call 20; refine (d_is_any _ _ _ H.out).mono ?_; rintro e w' ⟨rfl, rfl⟩)
    all_goals
      go_end0
      refine ⟨rfl, ?_, chgQ Q 1 _⟩
      have h2 := H.out.set1 (max n (-1)) (by omega) (by omega)
      first
        | exact h2
        | (have e : max n (-1) = n := by omega
           rw [e] at h2
           unfold Pw.set
           rw [if_pos rfl, e]
           exact h2)
        | (have e : max n (-1) = -1 := by omega
           rw [e] at h2
           unfold Pw.set
           rw [if_pos rfl, e]
           exact h2)
theorem d_back_any (Q : Nat) (p : Pw) (w : World) (h : PwAt w Q p) : Calls Tryz.prog 24 #[.pointer (some ⟨Q, 0, none⟩)] w fun e w' => e = .returned (.tuple #[]) ∧ PwAt w' Q ⟨true, -1⟩ ∧ Chg (fun k => k = Q) w w' := by
  have H := Lib.hid h
  have c0 := h.c0
  have c1 := h.c1
  have f0 := h.blk.free 0
  have f1 := h.blk.free 1
  clear h
  go_enter Tryz.func24, Tryz.ntmps24
  go_wp2
  go_end0
  exact ⟨rfl, H.out.set01 true (-1) (by omega) (by omega), (chgQ Q 0 _).trans' (chgQ Q 1 _)⟩
theorem step_any (Q : Nat) (p : Pw) (w : World) (h : PwAt w Q p) : Calls Tryz.prog 66 #[.pointer (some ⟨Q, 0, none⟩)] w fun e w' => e = .returned (.bool p.step.1) ∧ PwAt w' Q p.step.2 ∧ Chg (fun k => k = Q) w w' := by
  have H := Lib.hid h
  have c0 := h.c0
  have c1 := h.c1
  have f0 := h.blk.free 0
  have f1 := h.blk.free 1
  have hlo := h.lo
  have hhi := h.hi
  clear h
  obtain ⟨on, fu⟩ := p
  simp only at c0 c1 hlo hhi
  unfold Pw.step
  simp only
  cases on
  · rw [if_pos rfl]
    go_enter Tryz.func66, Tryz.ntmps66
    go_wp2_with (go_at_call 20; refine (d_is_any _ _ _ H.out).mono ?_; rintro e w' ⟨rfl, rfl⟩)
    go_ret
    exact ⟨rfl, H.out, Chg.refl _ _⟩
  · rw [if_neg (by simp)]
    by_cases h0 : fu = 0
    · rw [if_pos h0]
      subst h0
      go_enter Tryz.func66, Tryz.ntmps66
      go_wp2_with (go_at_call 20; refine (d_is_any _ _ _ H.out).mono ?_; rintro e w' ⟨rfl, rfl⟩)
      go_ret
      exact ⟨rfl, H.out.set01 false (-1) (by omega) (by omega), (chgQ Q 0 _).trans' (chgQ Q 1 _)⟩
    · rw [if_neg h0]
      by_cases h1 : 0 < fu
      · rw [if_pos h1]
        have hw := IntWalk.i64_in (fu - 1) (by omega)
        go_enter Tryz.func66, Tryz.ntmps66
        go_wp2_with (go_at_call 20; refine (d_is_any _ _ _ H.out).mono ?_; rintro e w' ⟨rfl, rfl⟩)
        go_ret
        exact ⟨rfl, H.out.set1 (fu - 1) (by omega) (by omega), chgQ Q 1 _⟩
      · rw [if_neg h1]
        go_enter Tryz.func66, Tryz.ntmps66
        go_wp2_with (go_at_call 20; refine (d_is_any _ _ _ H.out).mono ?_; rintro e w' ⟨rfl, rfl⟩)
        go_ret
        exact ⟨rfl, H.out, Chg.refl _ _⟩

structure Dsk where
  n : Nat
  mem : Nat → Bk
  cache : List (Nat × d_Bs)
  dead : Bool
  lose : Bool
  astray : Option Nat
def crow (L : List (Nat × Nat × d_Bs)) : List Value := L.flatMap fun x => [Value.int .u16 (x.1 : Int), Value.slice (some ⟨x.2.1, 0, none⟩) 512 512]
def Writes (w : World) (S : Nat → Prop) (L : List (Nat × Nat × d_Bs)) : Prop := ∀ x ∈ L, x.1 < 65536 ∧ x.2.2.length = 512 ∧ Blk w x.2.1 (x.2.2.map V8) 5 ∧ S x.2.1
def CacheAt (w : World) (S : Nat → Prop) (v : Value) (l : List (Nat × d_Bs)) : Prop :=
  ∃ L : List (Nat × Nat × d_Bs), L.map (fun x => (x.1, x.2.2)) = l ∧ Writes w S L ∧
    ((∃ sp, v = .slice sp 0 0 ∧ L = []) ∨ (w.ownsRow 0 187 2 v L.length (crow L) ∧ ∃ g, v.ownBlock = some g ∧ S g))
theorem Writes.chg {F S : Nat → Prop} {w w' : World} {L : List (Nat × Nat × d_Bs)} (h : Writes w S L) (hc : Chg F w w') (hn : ∀ k, S k → ¬ F k) : Writes w' S L := fun x hx => by
  obtain ⟨h1, h2, h3, h4⟩ := h x hx
  exact ⟨h1, h2, h3.chg hc (hn _ h4), h4⟩
theorem Writes.mono {S S' : Nat → Prop} {w : World} {L : List (Nat × Nat × d_Bs)} (h : Writes w S L) (hs : ∀ k, S k → S' k) : Writes w S' L := fun x hx => by
  obtain ⟨h1, h2, h3, h4⟩ := h x hx
  exact ⟨h1, h2, h3, hs _ h4⟩
theorem Writes.turned {F S : Nat → Prop} {w w' : World} {L : List (Nat × Nat × d_Bs)} (h : Writes w S L) (hc : Chg F w w') (hn : ∀ k cs, F k → ¬ Blk w k cs 5) : Writes w' S L := fun x hx => by
  obtain ⟨h1, h2, h3, h4⟩ := h x hx
  exact ⟨h1, h2, h3.chg hc (fun hf => hn _ _ hf h3), h4⟩
theorem owns_chg {F : Nat → Prop} {w w' : World} {B e k n : Nat} {v : Value} {xs : List Value} (h : w.ownsRow B e k v n xs) (hc : Chg F w w') (hn : ∀ g, v.ownBlock = some g → ¬ F g) : w'.ownsRow B e k v n xs := by
  refine ⟨h.1, ?_⟩
  rcases h.2 with hx | ⟨g, cap, cur, rfl, hb, hgg, rest⟩
  · exact .inl hx
  · refine .inr ⟨g, cap, cur, rfl, hb, ?_, rest⟩
    rw [hc.block g (Array.getElem?_eq_some_iff.1 hgg).1 (hn g rfl)]
    exact hgg
theorem CacheAt.chg {F S : Nat → Prop} {w w' : World} {v : Value} {l : List (Nat × d_Bs)} (h : CacheAt w S v l) (hc : Chg F w w') (hn : ∀ k, S k → ¬ F k) : CacheAt w' S v l := by
  obtain ⟨L, h1, h2, h3⟩ := h
  refine ⟨L, h1, h2.chg hc hn, ?_⟩
  rcases h3 with h3 | ⟨h3, g, h4, h5⟩
  · exact .inl h3
  · exact .inr ⟨owns_chg h3 hc (fun g' hg' => by rw [h4] at hg'; cases hg'; exact hn _ h5), g, h4, h5⟩
theorem CacheAt.turned {F S : Nat → Prop} {w w' : World} {v : Value} {l : List (Nat × d_Bs)} (h : CacheAt w S v l) (hc : Chg F w w') (hn : ∀ k cs, F k → ¬ Blk w k cs 5) (hn2 : ∀ k cs, F k → w.heap[k]? ≠ some (.cells cs 187 (0, 0))) : CacheAt w' S v l := by
  obtain ⟨L, h1, h2, h3⟩ := h
  refine ⟨L, h1, h2.turned hc hn, ?_⟩
  rcases h3 with h3 | ⟨h3, g, h4, h5⟩
  · exact .inl h3
  · refine .inr ⟨owns_chg h3 hc (fun g' hg' hf => ?_), g, h4, h5⟩
    rcases h3.2 with ⟨rfl, _⟩ | ⟨g2, cap, cur, rfl, _, hgg, _⟩
    · simp [Value.ownBlock] at hg'
    · simp [Value.ownBlock] at hg'
      subst hg'
      exact hn2 _ _ hf hgg
theorem CacheAt.mono {S S' : Nat → Prop} {w : World} {v : Value} {l : List (Nat × d_Bs)} (h : CacheAt w S v l) (hs : ∀ k, S k → S' k) : CacheAt w S' v l := by
  obtain ⟨L, h1, h2, h3⟩ := h
  refine ⟨L, h1, h2.mono hs, ?_⟩
  rcases h3 with h3 | ⟨h3, g, h4, h5⟩
  · exact .inl h3
  · exact .inr ⟨h3, g, h4, hs _ h5⟩
theorem CacheAt.form {S : Nat → Prop} {w : World} {v : Value} {l : List (Nat × d_Bs)} (h : CacheAt w S v l) : ∃ sp cap, v = .slice sp l.length cap ∧ l.length ≤ cap ∧ cap ≤ maxLen := by
  obtain ⟨L, rfl, _, h3⟩ := h
  rw [List.length_map]
  rcases h3 with ⟨sp, rfl, rfl⟩ | ⟨h3, _⟩
  · exact ⟨sp, 0, rfl, by simp, by unfold maxLen; omega⟩
  · rcases h3.2 with ⟨rfl, e⟩ | ⟨g, cap, cur, rfl, _, _, hc, hm, _⟩
    · exact ⟨none, 0, by rw [e], by omega, by unfold maxLen; omega⟩
    · exact ⟨_, cap, rfl, hc, hm⟩
def dcells (Q M : Nat) (v : Value) (to : Nat) (s : Dsk) : List Value := [.pointer (some ⟨Q, 0, none⟩), .int .i64 (s.n : Int), .map (some M), v, .bool s.dead, .bool s.lose, .bool s.astray.isSome, .int .u16 (to : Int)]
structure DkIn (w : World) (D Q M : Nat) (v : Value) (to : Nat) (S : Nat → Prop) (s : Dsk) : Prop where
  blk : Blk w D (dcells Q M v to s) 142
  map : MapAt w M s.mem
  cache : CacheAt w S v s.cache
  sd : S D
  sm : S M
  sq : ¬ S Q
  lt : ∀ k, S k → k < w.heap.size
  tlt : to < 65536
  teq : ∀ t, s.astray = some t → to = t
  nlt : s.n ≤ 65536
def DkAt (w : World) (D Q : Nat) (S : Nat → Prop) (s : Dsk) : Prop := ∃ M v to, DkIn w D Q M v to S s
theorem DkAt.chg {F S : Nat → Prop} {w w' : World} {D Q : Nat} {s : Dsk} (h : DkAt w D Q S s) (hc : Chg F w w') (hn : ∀ k, S k → ¬ F k) : DkAt w' D Q S s := by
  obtain ⟨M, v, to, h⟩ := h
  exact ⟨M, v, to, ⟨h.blk.chg hc (hn _ h.sd), h.map.chg hc (hn _ h.sm), h.cache.chg hc hn, h.sd, h.sm, h.sq, fun k hk => Nat.lt_of_lt_of_le (h.lt k hk) hc.size, h.tlt, h.teq, h.nlt⟩⟩
theorem DkIn.c {w : World} {D Q M : Nat} {v : Value} {to : Nat} {S : Nat → Prop} {s : Dsk} (h : DkIn w D Q M v to S s) : w.cell? ⟨D, 0, none⟩ = some (.pointer (some ⟨Q, 0, none⟩)) ∧ w.cell? ⟨D, 1, none⟩ = some (.int .i64 (s.n : Int)) ∧ w.cell? ⟨D, 2, none⟩ = some (.map (some M)) ∧ w.cell? ⟨D, 3, none⟩ = some v ∧
    w.cell? ⟨D, 4, none⟩ = some (.bool s.dead) ∧ w.cell? ⟨D, 5, none⟩ = some (.bool s.lose) ∧ w.cell? ⟨D, 6, none⟩ = some (.bool s.astray.isSome) ∧ w.cell? ⟨D, 7, none⟩ = some (.int .u16 (to : Int)) :=
  ⟨h.blk.cell rfl, h.blk.cell rfl, h.blk.cell rfl, h.blk.cell rfl, h.blk.cell rfl, h.blk.cell rfl, h.blk.cell rfl, h.blk.cell rfl⟩

def idle (s : Dsk) (p : Pw) : Int := if s.dead then 3 else if p.on then 0 else 3
theorem idle_any (D Q : Nat) (S : Nat → Prop) (s : Dsk) (p : Pw) (w : World) (h : DkAt w D Q S s) (hp : PwAt w Q p) : Calls Tryz.prog 65 #[.pointer (some ⟨D, 0, none⟩)] w fun e w' => e = .returned (.int .i64 (idle s p)) ∧ w = w' := by
  obtain ⟨M, v, to, h⟩ := h
  obtain ⟨c0, c1, c2, c3, c4, c5, c6, c7⟩ := h.c
  have HP := Lib.hid hp
  clear h hp c1 c2 c3 c5 c6 c7
  obtain ⟨on, fu⟩ := p
  obtain ⟨n, mem, cache, dead, lose, ast⟩ := s
  simp only at c4
  unfold idle
  go_enter Tryz.func65, Tryz.ntmps65
  cases dead
  · cases on
    · go_wp2_with (go_at_call 20; refine (d_is_any _ _ _ HP.out).mono ?_; rintro e w' ⟨rfl, rfl⟩)
      go_ret
      exact ⟨rfl, rfl⟩
    · go_wp2_with (go_at_call 20; refine (d_is_any _ _ _ HP.out).mono ?_; rintro e w' ⟨rfl, rfl⟩)
      go_ret
      exact ⟨rfl, rfl⟩
  · go_wp2
    go_ret
    exact ⟨rfl, rfl⟩
theorem dead_any (D Q : Nat) (S : Nat → Prop) (s : Dsk) (w : World) (h : DkAt w D Q S s) : Calls Tryz.prog 27 #[.pointer (some ⟨D, 0, none⟩)] w fun e w' => e = .returned (.bool s.dead) ∧ w = w' := by
  obtain ⟨M, v, to, h⟩ := h
  obtain ⟨c0, c1, c2, c3, c4, c5, c6, c7⟩ := h.c
  clear h c0 c1 c2 c3 c5 c6 c7
  go_enter Tryz.func27, Tryz.ntmps27
  go_wp2
  go_ret
  exact ⟨rfl, rfl⟩
theorem d_has_any (D Q : Nat) (S : Nat → Prop) (s : Dsk) (a : Nat) (ha : a < 65536) (w : World) (h : DkAt w D Q S s) : Calls Tryz.prog 71 #[.pointer (some ⟨D, 0, none⟩), .int .u16 (a : Int)] w fun e w' => e = .returned (.bool (decide (a < s.n))) ∧ w = w' := by
  obtain ⟨M, v, to, h⟩ := h
  obtain ⟨c0, c1, c2, c3, c4, c5, c6, c7⟩ := h.c
  clear h c0 c2 c3 c4 c5 c6 c7
  have hw := IntWalk.i64_in (a : Int) (by omega)
  go_enter Tryz.func71, Tryz.ntmps71
  go_wp2
  go_ret
  refine ⟨?_, rfl⟩
  simp
end Go.Proofs.YtmgagalhpkieoaaGreatDoor
/- Bytes copied; what a pick brings; the disk armed, or dead; its cache taken out. -/
namespace Go.Proofs.YtmgagalhpkieoaaGreatDoor
open Go.RowKit

theorem d_src_pos {w : World} {sp : Option Addr} {bs : d_Bs} (h : SrcA w sp bs) {g : Nat} : 0 < (bs.map V8).length → (some (⟨g, 0, none⟩ : Addr)) = some ⟨g, 0, none⟩ ∧ ∃ ad, sp = some ad ∧ ∀ j v, (bs.map V8)[j]? = some v → w.cell? (ad.add j) = some v := fun h0 => by
  obtain ⟨g', o, rfl, _, hc⟩ := h (by simpa using h0)
  exact ⟨rfl, _, rfl, src_cell hc⟩
theorem splice_all (n : Nat) (l : d_Bs) (h : l.length = n) : splice (List.replicate n (Value.int .u8 0)) 0 (l.map V8) = l.map V8 := by
  subst h
  simp [splice]
set_option maxRecDepth 100000 in
theorem own_any (l : d_Bs) (sp : Option Addr) (cap : Nat) (w : World) (hl : l.length ≤ 1000000) (hS : SrcA w sp l) :
    Calls Tryz.prog 103 #[.slice sp l.length cap] w fun e w' => e = .returned (.slice (some ⟨w.heap.size, 0, none⟩) l.length l.length) ∧ Blk w' w.heap.size (l.map V8) 5 ∧ Below w.heap.size w w' := by
  obtain ⟨i0, hi, hz0, hz1, hz2⟩ := info_parts infoB
  have HS := Lib.hid hS
  obtain ⟨L, hL⟩ : ∃ L, l.length = L := ⟨_, rfl⟩
  rw [hL] at hl ⊢
  have HL := Lib.hid hL
  clear hS hL
  go_enter Tryz.func103, Tryz.ntmps103
  go_wp2_with (first
    | (at_make; refine wpList_makeLC rfl _ _ 59 rfl 5 i0 (.int .u8 0) Tryz.underlying59 hi hz0 rfl hz1 .i64 .i64 _ _ L L rfl rfl rfl rfl (Nat.le_refl _) (by rw [hz2]; omega) (by unfold maxLen; omega) ?_; intro w1 hb1 hb2; have HB1 := Lib.hid hb1; have HB2 := Lib.hid hb2; clear hb1 hb2)
    | (refine wpList_copy_splice rfl (.tmp 7) (.tmp 8) 59 59 rfl 5 Tryz.underlying59 sizeB (some ⟨w.heap.size, 0, none⟩) sp L L L cap rfl rfl w.heap.size 0 _ 5 HB1.out (l.map V8) (by rw [List.length_map, HL.out]; simp) (d_src_pos (HS.out.grown HB2.out)) (by simp [HL.out]) (one_v8 l) w.heap.size w HB2.out (Nat.le_refl _) ?_; intro w2 hs2 hb3; have HP := Lib.hid hs2.out; have HB3 := Lib.hid hb3; clear hs2 hb3)
    | fail)
  go_ret
  refine ⟨rfl, ?_, HB3.out⟩
  have := HP.out
  rw [splice_all _ _ HL.out] at this
  exact this

def left (p : Int) : Int := if p < 1 then -1 else if p = 1 then 512 else (p - 2) % 512
theorem d_left_any (p : Int) (hp : p ≤ 9223372036854775807) (w : World) : Calls Tryz.prog 70 #[.int .i64 p] w fun e w' => e = .returned (.int .i64 (left p)) ∧ w = w' := by
  unfold left
  by_cases h1 : p < 1
  · rw [if_pos h1]
    go_enter Tryz.func70, Tryz.ntmps70
    go_wp2
    go_ret
    exact ⟨rfl, rfl⟩
  · rw [if_neg h1]
    by_cases h2 : p = 1
    · rw [if_pos h2]
      subst h2
      go_enter Tryz.func70, Tryz.ntmps70
      go_wp2
      go_ret
      exact ⟨rfl, rfl⟩
    · rw [if_neg h2]
      have hw := IntWalk.i64_in (p - 2) (by omega)
      have hm : (p - 2).tmod 512 = (p - 2) % 512 := Int.tmod_eq_emod_of_nonneg (by omega)
      have hw2 := IntWalk.i64_in ((p - 2) % 512) (by omega)
      go_enter Tryz.func70, Tryz.ntmps70
      go_wp2
      go_ret
      exact ⟨by simp [hm, hw2], rfl⟩
theorem d_all_any (i : Int) (w : World) : Calls Tryz.prog 68 #[.int .i64 i] w fun e w' => e = .returned (.int .i64 512) ∧ w = w' := by
  go_enter Tryz.func68, Tryz.ntmps68
  go_wp2
  go_ret
  exact ⟨rfl, rfl⟩
def SrcI (w : World) (sp : Option Addr) (zs : List Int) : Prop :=
  (∀ z ∈ zs, z ≤ 9223372036854775807) ∧ (0 < zs.length → ∃ g o, sp = some ⟨g, o, none⟩ ∧ g < w.heap.size ∧ ∀ j, j < zs.length → w.cell? ⟨g, o + j, none⟩ = some (.int .i64 (zs.getD j 0)))
def pickOf (zs : List Int) (i : Nat) : Int := if i < zs.length then left (zs.getD i 0) else -1
theorem pick_any (zs : List Int) (sp : Option Addr) (cap X i : Nat) (hc : zs.length ≤ cap) (hm : cap ≤ maxLen) (hi : i < 1000000) (w : World) (hs : SrcI w sp zs) (hX : w.cell? ⟨X, 0, none⟩ = some (.slice sp zs.length cap)) :
    Calls Tryz.prog 69 #[.int .i64 (i : Int), .pointer (some ⟨X, 0, none⟩)] w fun e w' => e = .returned (.int .i64 (pickOf zs i)) ∧ w = w' := by
  unfold pickOf
  by_cases h : i < zs.length
  · rw [if_pos h]
    obtain ⟨h1, h2⟩ := hs
    obtain ⟨g, o, rfl, hg, hcl⟩ := h2 (by omega)
    have hcell := hcl i h
    have hle := h1 (zs.getD i 0) (by rw [List.getD_eq_getElem?_getD, List.getElem?_eq_getElem h]; simp)
    obtain ⟨z, hz⟩ : ∃ z, zs.getD i 0 = z := ⟨_, rfl⟩
    rw [hz] at hcell hle ⊢
    clear hz h1 h2 hcl
    obtain ⟨n, hn⟩ : ∃ n, zs.length = n := ⟨_, rfl⟩
    rw [hn] at h hX hc
    clear hn
    go_enter Tryz.func69, Tryz.ntmps69
    go_wp2_with (go_at_call 70; refine (d_left_any z hle _).mono ?_; rintro e w' ⟨rfl, rfl⟩)
    go_ret
    exact ⟨rfl, rfl⟩
  · rw [if_neg h]
    obtain ⟨n, hn⟩ : ∃ n, zs.length = n := ⟨_, rfl⟩
    rw [hn] at h hX hc
    clear hn hs
    go_enter Tryz.func69, Tryz.ntmps69
    go_wp2
    go_ret
    exact ⟨rfl, rfl⟩

theorem chgD {S : Nat → Prop} {w : World} {D : Nat} (h : S D) (j : Nat) (v : Value) : Chg S w (w.setCell ⟨D, j, none⟩ v) := (Chg.refl S w).setCell (.inl h) j v
theorem DkIn.keep {w w' : World} {D Q M : Nat} {v : Value} {to : Nat} {S : Nat → Prop} {s : Dsk} (h : DkIn w D Q M v to S s) (hc : Chg (fun k => k = D) w w') : MapAt w' M s.mem ∧ CacheAt w' S v s.cache ∧ (∀ k, S k → k < w'.heap.size) := by
  have h5 : ∀ k (t : Nat) cs, k = D → Blk w k cs t → t = 142 := fun k t cs e hb => by subst e; exact hb.same h.blk
  refine ⟨h.map.chg hc (fun e => ?_), h.cache.turned hc (fun k cs e hb => by have := h5 k _ cs e hb; omega) (fun k cs e hb => ?_), fun k hk => Nat.lt_of_lt_of_le (h.lt k hk) hc.size⟩
  · have := h.blk
    rw [← e] at this
    exact h.map.noBlk this
  · have h2 : Blk w k cs.toList 187 := by unfold Blk; simpa using hb
    have := h5 k _ _ e h2
    omega
theorem d_chg1 {w : World} {D : Nat} (j : Nat) (v : Value) : Chg (fun k => k = D) w (w.setCell ⟨D, j, none⟩ v) := (Chg.refl (fun k => k = D) w).setCell (.inl rfl) j v
theorem lose_any (D Q : Nat) (S : Nat → Prop) (s : Dsk) (w : World) (h : DkAt w D Q S s) : Calls Tryz.prog 56 #[.pointer (some ⟨D, 0, none⟩)] w fun e w' => e = .returned (.tuple #[]) ∧ DkAt w' D Q S { s with lose := true } ∧ Chg S w w' := by
  obtain ⟨M, v, to, h⟩ := h
  obtain ⟨c0, c1, c2, c3, c4, c5, c6, c7⟩ := h.c
  have f5 := h.blk.free 5
  have H := Lib.hid h
  clear h c0 c1 c2 c3 c4 c6 c7
  go_enter Tryz.func56, Tryz.ntmps56
  go_wp2
  go_end0
  have h := H.out
  obtain ⟨k1, k2, k3⟩ := h.keep (d_chg1 5 (.bool true))
  exact ⟨rfl, ⟨M, v, to, ⟨h.blk.set 5 _, k1, k2, h.sd, h.sm, h.sq, k3, h.tlt, h.teq, h.nlt⟩⟩, chgD h.sd 5 _⟩
theorem die_any (D Q : Nat) (S : Nat → Prop) (s : Dsk) (w : World) (h : DkAt w D Q S s) : Calls Tryz.prog 58 #[.pointer (some ⟨D, 0, none⟩)] w fun e w' => e = .returned (.tuple #[]) ∧ DkAt w' D Q S { s with dead := true } ∧ Chg S w w' := by
  obtain ⟨M, v, to, h⟩ := h
  obtain ⟨c0, c1, c2, c3, c4, c5, c6, c7⟩ := h.c
  have f4 := h.blk.free 4
  have H := Lib.hid h
  clear h c0 c1 c2 c3 c5 c6 c7
  go_enter Tryz.func58, Tryz.ntmps58
  go_wp2
  go_end0
  have h := H.out
  obtain ⟨k1, k2, k3⟩ := h.keep (d_chg1 4 (.bool true))
  exact ⟨rfl, ⟨M, v, to, ⟨h.blk.set 4 _, k1, k2, h.sd, h.sm, h.sq, k3, h.tlt, h.teq, h.nlt⟩⟩, chgD h.sd 4 _⟩
theorem astray_any (D Q : Nat) (S : Nat → Prop) (s : Dsk) (a : Nat) (ha : a < 65536) (w : World) (h : DkAt w D Q S s) : Calls Tryz.prog 57 #[.pointer (some ⟨D, 0, none⟩), .int .u16 (a : Int)] w fun e w' => e = .returned (.tuple #[]) ∧ DkAt w' D Q S { s with astray := some a } ∧ Chg S w w' := by
  obtain ⟨M, v, to, h⟩ := h
  obtain ⟨c0, c1, c2, c3, c4, c5, c6, c7⟩ := h.c
  have f6 := h.blk.free 6
  have f7 := h.blk.free 7
  have H := Lib.hid h
  clear h c0 c1 c2 c3 c5 c4
  go_enter Tryz.func57, Tryz.ntmps57
  go_wp2
  go_end0
  have h := H.out
  obtain ⟨k1, k2, k3⟩ := h.keep ((d_chg1 6 (.bool true)).trans' (d_chg1 7 (.int .u16 (a : Int))))
  exact ⟨rfl, ⟨M, v, a, ⟨(h.blk.set 6 _).set 7 _, k1, k2, h.sd, h.sm, h.sq, k3, ha, fun t e => by cases e; rfl, h.nlt⟩⟩, (chgD h.sd 6 _).trans' (chgD h.sd 7 _)⟩
def Taken (w : World) (v : Value) (S : Nat → Prop) (L : List (Nat × Nat × d_Bs)) : Prop :=
  Writes w S L ∧ ((∃ sp, v = .slice sp 0 0 ∧ L = []) ∨ (w.ownsRow 0 187 2 v L.length (crow L) ∧ ∃ g, v.ownBlock = some g ∧ S g))
theorem drain_any (D Q : Nat) (S : Nat → Prop) (s : Dsk) (w : World) (h : DkAt w D Q S s) : Calls Tryz.prog 102 #[.pointer (some ⟨D, 0, none⟩)] w fun e w' => ∃ v L, e = .returned v ∧ L.map (fun x => (x.1, x.2.2)) = s.cache ∧ Taken w' v S L ∧ DkAt w' D Q S { s with cache := [] } ∧ Chg S w w' := by
  obtain ⟨M, v, to, h⟩ := h
  obtain ⟨c0, c1, c2, c3, c4, c5, c6, c7⟩ := h.c
  have f3 := h.blk.free 3
  obtain ⟨sp, cap, rfl, hle, hm⟩ := h.cache.form
  have H := Lib.hid h
  obtain ⟨N, hN⟩ : ∃ N, s.cache.length = N := ⟨_, rfl⟩
  have HN := Lib.hid hN
  rw [hN] at c3 hle
  clear h c0 c1 c2 c4 c5 c6 c7 hN
  go_enter Tryz.func102, Tryz.ntmps102
  go_wp2
  go_ret
  have h := H.out
  rw [HN.out] at h
  obtain ⟨k1, k2, k3⟩ := h.keep (d_chg1 3 (.slice sp 0 0))
  obtain ⟨L, e1, e2, e3⟩ := k2
  exact ⟨_, L, rfl, e1, ⟨e2, e3⟩, ⟨M, .slice sp 0 0, to, ⟨h.blk.set 3 _, k1, ⟨[], rfl, fun x hx => by simp at hx, .inl ⟨sp, rfl, rfl⟩⟩, h.sd, h.sm, h.sq, k3, h.tlt, h.teq, h.nlt⟩⟩, chgD h.sd 3 _⟩
end Go.Proofs.YtmgagalhpkieoaaGreatDoor
