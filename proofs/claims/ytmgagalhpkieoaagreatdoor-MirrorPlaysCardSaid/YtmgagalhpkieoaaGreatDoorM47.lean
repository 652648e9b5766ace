/- The document's mirror, made; an act, plain, on both. -/
import Derived.Test.YtmgagalhpkieoaaGreatDoorM45
import Derived.Test.YtmgagalhpkieoaaGreatDoorM46
namespace Go.Proofs.YtmgagalhpkieoaaGreatDoor
open Go.RowKit

def startR (n : Nat) : Wi := { d := fun _ => ⟨n, [], [], [], [], false, false, none⟩, p := ⟨true, -1⟩, s := fun _ => ⟨n, fun _ => []⟩, f := fun _ => 0, g := fun _ => 0, mv := [] }
theorem start_sim {n : Nat} (hn : 1 ≤ n) : MSim Sim SpT (start n) (startR n) := by
  refine ⟨fun k hk => sim_fresh n, rfl, fun k hk => ?_, rfl, rfl, rfl⟩
  have h := SimD.fresh (n - 1)
  rw [show n - 1 + 1 = n by omega] at h
  obtain rfl | rfl : k = 0 ∨ k = 1 := by omega
  · exact h
  · exact h
theorem startR_bw (n : Nat) : Bw (startR n) 0 :=
  ⟨fun k hk => ⟨Nat.le_refl _, Nat.le_refl _, Nat.le_refl _, fun x hx => (by cases hx), fun x hx => (by cases hx), fun x hx => (by cases hx)⟩, fun k hk i hi => Nat.le_refl _, fun _ => Nat.le_refl _, fun _ => Nat.le_refl _, Nat.le_refl _⟩
def doR (y : Wi) (m : Ma) : Wi :=
  if m.d = 0 then healS kinR y m.q false
  else if m.d = 1 then healS kinR y m.q true
  else if m.d = 2 then (writeR kinR y m.q m.f).2
  else if m.d = 3 then (flushR kinR y).2
  else if m.d = 4 then { y with mv := [] }
  else faultR y m.a
theorem MSim.act {x : Mi Dsk Sp} {y : Wi} (h : MSim Sim SpT x y) (m : Ma) (hq : m.q.OK) : MSim Sim SpT (doS x m) (doR y m) := by
  have hc : ∀ c ∈ copiesP m.q, c.1 < 2 ∧ 0 < c.2 := fun c hc => ⟨(cps_ok hq c hc).1, (cps_ok hq c hc).2.1⟩
  unfold doS doR
  split
  · exact (h.heal alike m.q hc false).2.2
  · split
    · exact (h.heal alike m.q hc true).2.2
    · split
      · exact (h.write alike m.q m.f (fun c h => (hc c h).1)).2
      · split
        · exact (h.flush alike).2
        · split
          · exact ⟨h.d, h.p, h.s, h.f, h.g, rfl⟩
          · exact h.fault m.a
theorem Bw.act {y : Wi} {n : Nat} (h : Bw y n) {m : Ma} (hq : m.q.OK) (ha : m.a.addr < 65536) : Bw (doR y m) (n + 8) := by
  unfold doR
  split
  · exact h.heal hq _
  · split
    · exact h.heal hq _
    · split
      · exact h.write hq _
      · split
        · exact h.flush
        · split
          · exact ⟨(h.up (by omega)).d, (h.up (by omega)).s, (h.up (by omega)).f, (h.up (by omega)).g, by simp⟩
          · exact (h.fault ha).up (by omega)
def pkv (k i : Nat) (f : Nat → Nat) : Value := .pointer (if i < k then some ⟨f i, 0, none⟩ else none)
def dz (n q : Nat) : List Value := [.int .i64 (n : Int), .pointer (some ⟨q, 0, none⟩), .slice none 0 0, .slice none 0 0, .slice none 0 0, .slice none 0 0, .bool false, .bool false, .slice none 0 0]
def rz (n : Nat) : List Value := [.int .i64 (n : Int), .slice none 0 0, .slice none 0 0, .slice none 0 0]
def mz (k : Nat) (D R : Nat → Nat) : List Value := [pkv k 0 D, pkv k 1 D, pkv k 0 R, pkv k 1 R, .int .i64 0, .int .i64 0, .int .i64 0, .int .i64 0, .slice none 0 0]
structure LbW (W1 : World) (n q M : Nat) (D R : Nat → Nat) (k : Nat) (Z : World) : Prop where
  qb : Blk Z q [.bool false, .int .i64 (-1)] 36
  mb : Blk Z M (mz k D R) 45
  db : ∀ i, i < k → Blk Z (D i) (dz n q) 49
  rb : ∀ i, i < k → Blk Z (R i) (rz n) 51
  wq : W1.heap.size ≤ q
  qm : q < M
  md : ∀ i, i < k → M < D i ∧ D i < R i
  rd : 1 < k → R 0 < D 1
  bel : Below W1.heap.size W1 Z
theorem Blk.alloc2 {w : World} {g : Nat} {cs : List Value} {t : TypeId} (h : Blk w g cs t) (o : Obj) {j : Nat} {m : Nat} {v : Value} (hm : g ≠ m) : Blk ((w.setCell ⟨m, j, none⟩ v).alloc o) g cs t := (h.chg (chg1 _ m j v) hm).alloc o
theorem LbW.step {W1 Z Z1 : World} {n q M k : Nat} {D R : Nat → Nat} (h : LbW W1 n q M D R k Z) (hk : k < 2) (hZ : Z1 = (Z.setCell ⟨M, k, none⟩ (.pointer (some ⟨Z.heap.size, 0, none⟩))).alloc (.cells (dz n q).toArray 49)) :
    LbW W1 n q M (upk D k Z.heap.size) (upk R k Z1.heap.size) (k + 1) ((Z1.setCell ⟨M, 2 + k, none⟩ (.pointer (some ⟨Z1.heap.size, 0, none⟩))).alloc (.cells (rz n).toArray 51)) := by
  have hms := h.mb.lt
  have hqs := h.qb.lt
  have hm := h.qm
  have hmq : q ≠ M := by omega
  have hw := h.wq
  have hs1 : Z1.heap.size = Z.heap.size + 1 := by rw [hZ]; simp
  have hd1 : Blk Z1 Z.heap.size (dz n q) 49 := by
    have := Blk.new (Z.setCell ⟨M, k, none⟩ (.pointer (some ⟨Z.heap.size, 0, none⟩))) (dz n q) 49
    rw [hZ]
    simpa using this
  have hrn : Blk ((Z1.setCell ⟨M, 2 + k, none⟩ (.pointer (some ⟨Z1.heap.size, 0, none⟩))).alloc (.cells (rz n).toArray 51)) Z1.heap.size (rz n) 51 := by
    have := Blk.new (Z1.setCell ⟨M, 2 + k, none⟩ (.pointer (some ⟨Z1.heap.size, 0, none⟩))) (rz n) 51
    simpa using this
  have h1 : ∀ {g : Nat} {cs : List Value} {t : TypeId}, Blk Z g cs t → g ≠ M → Blk Z1 g cs t := fun hb hg => by rw [hZ]; exact hb.alloc2 _ hg
  have hmb1 : Blk Z1 M ((mz k D R).set k (.pointer (some ⟨Z.heap.size, 0, none⟩))) 45 := by rw [hZ]; exact (h.mb.set k _).alloc _
  have hc : Chg (fun b => b = M) Z Z1 := by rw [hZ]; exact (chg1 Z M k _).alloc _
  refine ⟨(h1 h.qb hmq).alloc2 _ hmq, ?_, fun i hi => ?_, fun i hi => ?_, h.wq, h.qm, fun i hi => ?_, fun hk1 => ?_, ?_⟩
  · have hb := (hmb1.set (2 + k) (.pointer (some ⟨Z1.heap.size, 0, none⟩))).alloc (.cells (rz n).toArray 51)
    obtain rfl | rfl : k = 0 ∨ k = 1 := by omega
    · exact hb
    · exact hb
  · by_cases e : i = k
    · subst e
      rw [upk_same]
      exact hd1.alloc2 _ (by omega)
    · rw [upk_other _ _ e]
      have := (h.md i (by omega)).1
      exact (h1 (h.db i (by omega)) (by omega)).alloc2 _ (by omega)
  · by_cases e : i = k
    · subst e
      rw [upk_same]
      exact hrn
    · rw [upk_other _ _ e]
      have := h.md i (by omega)
      exact (h1 (h.rb i (by omega)) (by omega)).alloc2 _ (by omega)
  · by_cases e : i = k
    · subst e
      rw [upk_same, upk_same]
      omega
    · rw [upk_other _ _ e, upk_other _ _ e]
      exact h.md i (by omega)
  · obtain rfl : k = 1 := by omega
    rw [upk_other _ _ (by omega), upk_same]
    exact (h.rb 0 (by omega)).lt
  · have hc2 : Chg (fun b => b = M) Z ((Z1.setCell ⟨M, 2 + k, none⟩ (.pointer (some ⟨Z1.heap.size, 0, none⟩))).alloc (.cells (rz n).toArray 51)) := hc.trans' ((chg1 Z1 M _ _).alloc _)
    exact h.bel.trans (hc2.below (fun b hb => by omega) h.bel.size)
def labW (q M : Nat) (D R : Nat → Nat) (b : Nat) : Nat := if b = q then 3 else if b = M then 4 else if b = D 0 then 1 else if b = D 1 then 2 else if b = R 0 then 5 else if b = R 1 then 6 else 0
theorem LbW.wm {W1 Z : World} {n q M : Nat} {D R : Nat → Nat} (h : LbW W1 n q M D R 2 Z) (hn : n ≤ 65536) : WmAt Z (labW q M D R) ⟨M, q, D, R⟩ (startR n) ∧ ∀ b, labW q M D R b ≠ 0 → W1.heap.size ≤ b := by
  have h0 := h.md 0 (by omega)
  have h1 := h.md 1 (by omega)
  have h2 := h.rd (by omega)
  have hq := h.qm
  have hw := h.wq
  have hr1 := (h.rb 1 (by omega)).lt
  have eq : labW q M D R q = 3 := by simp [labW]
  have em : labW q M D R M = 4 := by unfold labW; rw [if_neg (by omega), if_pos rfl]
  have ed : ∀ k, k < 2 → labW q M D R (D k) = k + 1 := fun k hk => by
    obtain rfl | rfl : k = 0 ∨ k = 1 := by omega
    · unfold labW; rw [if_neg (by omega), if_neg (by omega), if_pos rfl]
    · unfold labW; rw [if_neg (by omega), if_neg (by omega), if_neg (by omega), if_pos rfl]
  have er : ∀ k, k < 2 → labW q M D R (R k) = k + 5 := fun k hk => by
    obtain rfl | rfl : k = 0 ∨ k = 1 := by omega
    · unfold labW; rw [if_neg (by omega), if_neg (by omega), if_neg (by omega), if_neg (by omega), if_pos rfl]
    · unfold labW; rw [if_neg (by omega), if_neg (by omega), if_neg (by omega), if_neg (by omega), if_neg (by omega), if_pos rfl]
  have cs : ∀ b, labW q M D R b ≠ 0 → b = q ∨ b = M ∨ b = D 0 ∨ b = D 1 ∨ b = R 0 ∨ b = R 1 := fun b hb => by
    unfold labW at hb
    by_cases e1 : b = q; · exact .inl e1
    by_cases e2 : b = M; · exact .inr (.inl e2)
    by_cases e3 : b = D 0; · exact .inr (.inr (.inl e3))
    by_cases e4 : b = D 1; · exact .inr (.inr (.inr (.inl e4)))
    by_cases e5 : b = R 0; · exact .inr (.inr (.inr (.inr (.inl e5))))
    by_cases e6 : b = R 1; · exact .inr (.inr (.inr (.inr (.inr e6))))
    rw [if_neg e1, if_neg e2, if_neg e3, if_neg e4, if_neg e5, if_neg e6] at hb
    exact absurd rfl hb
  have lts : ∀ b, labW q M D R b ≠ 0 → b < Z.heap.size := fun b hb => by rcases cs b hb with e | e | e | e | e | e <;> omega
  have h8 : ∀ b, labW q M D R b ≠ 8 := fun b hb => by
    rcases cs b (by omega) with e | e | e | e | e | e
    · rw [e, eq] at hb; omega
    · rw [e, em] at hb; omega
    · rw [e, ed 0 (by omega)] at hb; omega
    · rw [e, ed 1 (by omega)] at hb; omega
    · rw [e, er 0 (by omega)] at hb; omega
    · rw [e, er 1 (by omega)] at hb; omega
  refine ⟨⟨⟨.slice none 0 0, h.mb, World.ownsRow_nil _ _ _ _, fun g hg => by cases hg⟩, fun k hk => ⟨.slice none 0 0, .slice none 0 0, .slice none 0 0, .slice none 0 0, .slice none 0 0, h.db k hk, World.ownsRow_nil _ _ _ _, World.ownsRow_nil _ _ _ _, World.ownsRow_nil _ _ _ _, World.ownsRow_nil _ _ _ _, World.ownsRow_nil _ _ _ _, fun g hg => (by cases hg), fun g hg => (by cases hg), fun g hg => (by cases hg), fun g hg => (by cases hg), fun g hg => (by cases hg), fun g hg => (by cases hg), ed k hk, fun e => by have e : labW q M D R q = k + 1 := e; omega, fun b hb => lts b (by have hb : labW q M D R b = k + 1 := hb; omega), hn⟩, ⟨h.qb, by simp [startR], by simp [startR]⟩, fun k hk => ⟨0, fun _ => 3, 0, fun _ => .slice none 0 0, ⟨h.rb k hk, fun i hi => ⟨ownU_nil _ _, fun g hg => by cases hg⟩, Nat.zero_le _⟩, er k hk, fun g _ _ _ e => absurd e (by show ¬ (3 < 0 + 3); omega), fun b hb => lts b (by have hb : labW q M D R b = k + 5 := hb; omega)⟩, eq, em, lts, fun p hp => (by cases hp), h8⟩, fun b hb => by rcases cs b hb with e | e | e | e | e | e <;> omega⟩
end Go.Proofs.YtmgagalhpkieoaaGreatDoor
