/- The document's mirror in memory: whose each block is, what turns. -/
import Derived.Test.YtmgagalhpkieoaaGreatDoorM26
import Derived.Test.YtmgagalhpkieoaaGreatDoorM28
import Derived.Test.YtmgagalhpkieoaaGreatDoorM29
import Derived.Test.YtmgagalhpkieoaaGreatDoorM12
import Derived.Test.YtmgagalhpkieoaaGreatDoorM41
namespace Go.Proofs.YtmgagalhpkieoaaGreatDoor
open Go.RowKit

def RdAt (w : World) (T : Nat → Prop) (R : Nat) (rd : Rdk) : Prop := ∃ lo lab b v, RdIn w lo lab b R v rd ∧ T R ∧ (∀ g, g < w.heap.size → lo ≤ g → b ≤ lab g → lab g < b + 3 → T g) ∧ ∀ k, T k → k < w.heap.size
section
variable {w w' : World} {T T' F : Nat → Prop} {R : Nat} {rd : Rdk}
theorem RdAt.chg (h : RdAt w T R rd) (hc : Chg F w w') (hn : ∀ k, T k → ¬ F k) : RdAt w' T R rd := by
  obtain ⟨lo, lab, b, v, hi, h1, h2, h3⟩ := h
  have hf : ∀ g, Foot w lo lab b R g → T g := by
    rintro g (rfl | ⟨a1, a2, a3, cs, hb⟩)
    · exact h1
    · exact h2 g hb.lt a1 a2 a3
  refine ⟨lo, labs w lab (b + 3), b, v, hi.chg hc (fun g hg => by unfold labs; rw [if_pos hg]) (fun g hg hft => hn g (hf g hft) hg), h1, fun g _ e1 e2 e3 => ?_, fun k hk => Nat.lt_of_lt_of_le (h3 k hk) hc.size⟩
  unfold labs at e2 e3
  by_cases hg : g < w.heap.size
  · rw [if_pos hg] at e2 e3
    exact h2 g hg e1 e2 e3
  · rw [if_neg hg] at e3
    omega
theorem RdAt.mono (h : RdAt w T R rd) (hs : ∀ k, T k → T' k) (hl : ∀ k, T' k → k < w.heap.size) : RdAt w T' R rd := by
  obtain ⟨lo, lab, b, v, hi, h1, h2, _⟩ := h
  exact ⟨lo, lab, b, v, hi, hs _ h1, fun g a1 a2 a3 a4 => hs g (h2 g a1 a2 a3 a4), hl⟩
theorem RdAt.ext (h : RdAt w T R rd) (hw : w.heap.size ≤ w'.heap.size) (hs : RdAt w' T R rd) : RdAt w' (Ext T w w') R rd := by
  have hl : ∀ k, T k → k < w.heap.size := by obtain ⟨_, _, _, _, _, _, _, h⟩ := h; exact h
  exact hs.mono (fun _ h => .inl h) (fun k hk => by rcases hk with hk | hk; exact Nat.lt_of_lt_of_le (hl k hk) hw; exact hk.2)
def felt (rd : Rdk) (a : Nat) : Rdk := if a < rd.n then rd.set 2 (wo (rd.l 2) a ++ [a]) else rd
theorem wact_any (w : World) (T : Nat → Prop) (R : Nat) (rd : Rdk) (a : Nat) (h : RdAt w T R rd) (hl : ∀ i, i < 3 → (rd.l i).length ≤ 999) (h0 : 1 ≤ a) (ha : a < 65536) :
    Calls Tryz.prog 88 #[.pointer (some ⟨R, 0, none⟩), .int .i64 3, .int .u16 (a : Int)] w fun e w' => (∃ z : Int, e = .returned (.int .i64 z)) ∧ RdAt w' (Ext T w w') R (felt rd a) ∧ Chg T w w' := by
  have HH := h
  obtain ⟨lo, lab, b, v, hi, h1, h2, h3⟩ := h
  unfold felt
  by_cases hlt : a < rd.n
  · rw [if_pos hlt]
    refine (ract_sick w lo lab b R v rd a hi hl h0 ha hlt).mono ?_
    rintro e w' ⟨rfl, lab', v', q1, q2, q3⟩
    have hf : ∀ g, Foot w lo lab b R g → T g := by
      rintro g (rfl | ⟨a1, a2, a3, cs, hb⟩)
      · exact h1
      · exact h2 g hb.lt a1 a2 a3
    refine ⟨⟨_, rfl⟩, ⟨lo, lab', b, v', q2, .inl h1, fun g hg e1 e2 e3 => ?_, fun k hk => ?_⟩, q3.mono hf⟩
    · by_cases hgs : g < w.heap.size
      · rw [q1 g hgs] at e2 e3
        exact .inl (h2 g hgs e1 e2 e3)
      · exact .inr ⟨by omega, hg⟩
    · rcases hk with hk | hk
      · exact Nat.lt_of_lt_of_le (h3 k hk) q3.size
      · exact hk.2
  · rw [if_neg hlt]
    obtain ⟨s0, s1, s2, k0, k1, k2, _, _, _, hk⟩ := hi.look
    refine (ract_far w R rd s0 s1 s2 k0 k1 k2 3 a hk h0 ha (by omega)).mono ?_
    rintro e w' ⟨rfl, rfl⟩
    exact ⟨⟨_, rfl⟩, HH.ext (Nat.le_refl _) HH, Chg.refl _ _⟩
end
structure Rl where
  M : Nat
  q : Nat
  D : Nat → Nat
  R : Nat → Nat
abbrev Wi := Mi Rsk (Nat → Rdk)
def wmcells (X : Rl) (v : Value) (y : Wi) : List Value :=
  [.pointer (some ⟨X.D 0, 0, none⟩), .pointer (some ⟨X.D 1, 0, none⟩), .pointer (some ⟨X.R 0, 0, none⟩), .pointer (some ⟨X.R 1, 0, none⟩), .int .i64 (y.f 0 : Nat), .int .i64 (y.f 1 : Nat), .int .i64 (y.g 0 : Nat), .int .i64 (y.g 1 : Nat), v]
structure WmAt (w : World) (lab : Nat → Nat) (X : Rl) (y : Wi) : Prop where
  mi : ∃ v, Blk w X.M (wmcells X v y) 45 ∧ OwnM w 0 v y.mv ∧ ∀ g, v.ownBlock = some g → lab g = 7
  dk : ∀ k, k < 2 → RkAt w (X.D k) X.q (fun b => lab b = k + 1) (y.d k)
  pw : RpAt w X.q y.p
  sp : ∀ k, k < 2 → RdAt w (fun b => lab b = k + 5) (X.R k) (y.s k)
  lq : lab X.q = 3
  lm : lab X.M = 4
  lt : ∀ b, lab b ≠ 0 → b < w.heap.size
  ok : ∀ q ∈ y.mv, q.OK
  l8 : ∀ b, lab b ≠ 8
def WmPost (w : World) (lab : Nat → Nat) (X : Rl) (y : Wi) (w' : World) : Prop := ∃ lab', WmAt w' lab' X y ∧ Stp w lab w' lab'
section
variable {w w' : World} {lab : Nat → Nat} {X : Rl} {x y : Wi} {N F : Nat → Prop} {c : Nat}
theorem WmAt.out (h : WmAt w lab X x) (hc : Chg F w w') (hF : ∀ b, F b → lab b = 0) : WmAt w' lab X x := by
  have n : ∀ b, lab b ≠ 0 → ¬ F b := fun b hb hf => hb (hF b hf)
  obtain ⟨v, h1, h2, h3⟩ := h.mi
  exact ⟨⟨v, h1.chg hc (n _ (by rw [h.lm]; omega)), h2.chg hc (fun g hg => n _ (by rw [h3 g hg]; omega)), h3⟩, fun k hk => (h.dk k hk).chg hc (fun b hb => n _ (by rw [hb]; omega)), h.pw.chg hc (n _ (by rw [h.lq]; omega)),
    fun k hk => (h.sp k hk).chg hc (fun b hb => n _ (by rw [hb]; omega)), h.lq, h.lm, fun b hb => Nat.lt_of_lt_of_le (h.lt b hb) hc.size, h.ok, h.l8⟩
theorem WmAt.below (h : WmAt w lab X x) (hb : Below w.heap.size w w') : WmAt w' lab X x := h.out (F := fun _ => False) (Chg.of_below hb) (fun _ hf => hf.elim)
theorem WmPost.of_below (h : WmAt w lab X x) (hb : Below w.heap.size w w') : WmPost w lab X x w' := ⟨lab, h.below hb, Stp.below hb⟩
theorem Stp.wpost {w2 : World} {l1 : Nat → Nat} (h : Stp w lab w' l1) (k : WmPost w' l1 X y w2) : WmPost w lab X y w2 := by
  obtain ⟨l2, h2, k2⟩ := k
  exact ⟨l2, h2, h.trans k2⟩
theorem WmAt.oldL (h : WmAt w lab X x) (hN : ∀ b, N b → w.heap.size ≤ b ∧ b < w'.heap.size) : ∀ b, lab b ≠ 0 → relab N lab c b = lab b := fun b hb => relab_old (fun hn => by have := (hN b hn).1; have := h.lt b hb; omega)
theorem newL {j : Nat} (hj : j ≠ c) {b : Nat} (he : relab N lab c b = j) : lab b = j := by
  by_cases hb : N b
  · rw [relab_new hb] at he; exact absurd he.symm hj
  · rw [relab_old hb] at he; exact he
theorem ownL {b : Nat} : relab N lab c b = c ↔ (lab b = c ∨ N b) := by
  by_cases hb : N b
  · rw [relab_new hb]; simp [hb]
  · rw [relab_old hb]; simp [hb]
theorem WmAt.turn (h : WmAt w lab X x) (h0 : c ≠ 0) (h8 : c ≠ 8) (hN : ∀ b, N b → w.heap.size ≤ b ∧ b < w'.heap.size) (hc : Chg F w w') (hF0 : ∀ b, F b → lab b ≠ 0)
    (hmi : ∃ v, Blk w' X.M (wmcells X v y) 45 ∧ OwnM w' 0 v y.mv ∧ ∀ g, v.ownBlock = some g → relab N lab c g = 7)
    (hdk : ∀ k, k < 2 → (k + 1 ≠ c ∧ y.d k = x.d k ∧ ∀ b, lab b = k + 1 → ¬ F b) ∨ RkAt w' (X.D k) X.q (fun b => relab N lab c b = k + 1) (y.d k))
    (hpw : RpAt w' X.q y.p)
    (hsp : ∀ k, k < 2 → (k + 5 ≠ c ∧ y.s k = x.s k ∧ ∀ b, lab b = k + 5 → ¬ F b) ∨ RdAt w' (fun b => relab N lab c b = k + 5) (X.R k) (y.s k))
    (hok : ∀ q ∈ y.mv, q.OK) : WmPost w lab X y w' := by
  have old : ∀ b, lab b ≠ 0 → relab N lab c b = lab b := h.oldL hN
  refine ⟨relab N lab c, ⟨hmi, fun k hk => ?_, hpw, fun k hk => ?_, by rw [old _ (by rw [h.lq]; omega)]; exact h.lq, by rw [old _ (by rw [h.lm]; omega)]; exact h.lm, fun b hb => ?_, hok, fun b hb => ?_⟩, hc.mono (fun b hb => ⟨hF0 b hb, h.l8 b⟩), fun b hb => .inl (relab_old (fun hn => by have := (hN b hn).1; omega))⟩
  · rcases hdk k hk with ⟨h1, h2, h3⟩ | h1
    · rw [h2]
      refine ((h.dk k hk).chg hc h3).mono (fun b hb => by have hb : lab b = k + 1 := hb; show relab N lab c b = k + 1; rw [old _ (by omega)]; exact hb) (fun hb => by have hb : relab N lab c X.q = k + 1 := hb; rw [old _ (by rw [h.lq]; omega), h.lq] at hb; omega) (fun b hb => ?_)
      have := newL h1 hb
      exact Nat.lt_of_lt_of_le (h.lt b (by omega)) hc.size
    · exact h1
  · rcases hsp k hk with ⟨h1, h2, h3⟩ | h1
    · rw [h2]
      refine ((h.sp k hk).chg hc h3).mono (fun b hb => by have hb : lab b = k + 5 := hb; show relab N lab c b = k + 5; rw [old _ (by omega)]; exact hb) (fun b hb => ?_)
      have := newL h1 hb
      exact Nat.lt_of_lt_of_le (h.lt b (by omega)) hc.size
    · exact h1
  · by_cases hn : N b
    · exact (hN b hn).2
    · rw [relab_old hn] at hb
      exact Nat.lt_of_lt_of_le (h.lt b hb) hc.size
  · by_cases hn : N b
    · rw [relab_new hn] at hb; exact h8 hb
    · rw [relab_old hn] at hb; exact h.l8 b hb
theorem WmAt.miOut (h : WmAt w lab X x) (hN : ∀ b, N b → w.heap.size ≤ b ∧ b < w'.heap.size) (hc : Chg F w w') (h4 : ∀ b, lab b = 4 → ¬ F b) (h7 : ∀ b, lab b = 7 → ¬ F b) (hf : y.f = x.f) (hg : y.g = x.g) (hm : y.mv = x.mv) :
    ∃ v, Blk w' X.M (wmcells X v y) 45 ∧ OwnM w' 0 v y.mv ∧ ∀ g, v.ownBlock = some g → relab N lab c g = 7 := by
  obtain ⟨v, h1, h2, h3⟩ := h.mi
  have e : wmcells X v y = wmcells X v x := by unfold wmcells; rw [hf, hg]
  exact ⟨v, by rw [e]; exact h1.chg hc (h4 _ h.lm), by rw [hm]; exact h2.chg hc (fun g hg => h7 _ (h3 g hg)), fun g hg => by rw [h.oldL hN g (by rw [h3 g hg]; omega)]; exact h3 g hg⟩
theorem WmAt.stepD (h : WmAt w lab X x) {k : Nat} (hk : k < 2) {t' : Rsk} {p' : Pw} (hd : RkAt w' (X.D k) X.q (Ext (fun b => lab b = k + 1) w w') t') (hp : RpAt w' X.q p') (hc : Chg (fun b => lab b = k + 1 ∨ b = X.q) w w') :
    WmPost w lab X { x with d := upk x.d k t', p := p' } w' := by
  have n : ∀ b, lab b ≠ k + 1 → lab b ≠ 3 → ¬ (lab b = k + 1 ∨ b = X.q) := fun b h1 h2 hf => by
    rcases hf with hf | rfl
    · exact h1 hf
    · exact h2 h.lq
  have hN : ∀ b, (w.heap.size ≤ b ∧ b < w'.heap.size) → w.heap.size ≤ b ∧ b < w'.heap.size := fun _ h => h
  refine h.turn (N := fun b => w.heap.size ≤ b ∧ b < w'.heap.size) (c := k + 1) (y := { x with d := upk x.d k t', p := p' }) (by omega) (by omega) hN hc (fun b hb => ?_) (h.miOut hN hc (fun b hb => n _ (by omega) (by omega)) (fun b hb => n _ (by omega) (by omega)) rfl rfl rfl) (fun i hi => ?_) hp (fun i hi => ?_) h.ok
  · rcases hb with hb | rfl
    · omega
    · rw [h.lq]; omega
  · by_cases e : i = k
    · subst e
      right
      show RkAt w' (X.D i) X.q _ (upk x.d i t' i)
      rw [upk_same]
      exact hd.mono (fun b hb => ownL.2 hb) (fun hb => by have hb : relab _ lab (i + 1) X.q = i + 1 := hb; rw [h.oldL hN _ (by rw [h.lq]; omega), h.lq] at hb; omega) (fun b hb => hd.lt b (ownL.1 hb))
    · left
      refine ⟨by omega, ?_, fun b hb => n _ (by omega) (by omega)⟩
      show upk x.d k t' i = x.d i
      rw [upk_other _ _ e]
  · exact .inl ⟨by omega, rfl, fun b hb => n _ (by omega) (by omega)⟩
theorem WmAt.power (h : WmAt w lab X x) {p' : Pw} (hp : RpAt w' X.q p') (hc : Chg (fun b => b = X.q) w w') : WmPost w lab X { x with p := p' } w' := by
  have hn : ∀ b, lab b ≠ 3 → ¬ b = X.q := fun b h1 e => h1 (by rw [e]; exact h.lq)
  have hd := ((h.dk 0 (by omega)).chg hc (fun b hb => hn b (by rw [hb]; omega)))
  have hq : X.q < w.heap.size := h.lt _ (by rw [h.lq]; omega)
  obtain ⟨l', h', s'⟩ := h.stepD (k := 0) (by omega) (hd.ext hq) hp (hc.mono (fun _ hb => .inr hb))
  have e : upk x.d 0 (x.d 0) = x.d := by funext i; unfold upk; split <;> simp_all
  rw [e] at h'
  exact ⟨l', h', s'⟩
theorem WmAt.stepS (h : WmAt w lab X x) {k : Nat} (hk : k < 2) {r : Rdk} (hs : RdAt w' (Ext (fun b => lab b = k + 5) w w') (X.R k) r) (hc : Chg (fun b => lab b = k + 5) w w') :
    WmPost w lab X { x with s := upk x.s k r } w' := by
  have n : ∀ b, lab b ≠ k + 5 → ¬ (lab b = k + 5) := fun b h1 hf => h1 hf
  have hN : ∀ b, (w.heap.size ≤ b ∧ b < w'.heap.size) → w.heap.size ≤ b ∧ b < w'.heap.size := fun _ h => h
  refine h.turn (N := fun b => w.heap.size ≤ b ∧ b < w'.heap.size) (c := k + 5) (y := { x with s := upk x.s k r }) (by omega) (by omega) hN hc (fun b hb => by omega) (h.miOut hN hc (fun b hb => n _ (by omega)) (fun b hb => n _ (by omega)) rfl rfl rfl) (fun i hi => .inl ⟨by omega, rfl, fun b hb => n _ (by omega)⟩) (h.pw.chg hc (n _ (by rw [h.lq]; omega))) (fun i hi => ?_) h.ok
  by_cases e : i = k
  · subst e
    right
    show RdAt w' _ (X.R i) (upk x.s i r i)
    rw [upk_same]
    refine hs.mono (fun b hb => ownL.2 hb) (fun b hb => ?_)
    rcases ownL.1 hb with h1 | h1
    · exact Nat.lt_of_lt_of_le (h.lt b (by omega)) hc.size
    · exact h1.2
  · left
    refine ⟨by omega, ?_, fun b hb => n _ (by omega)⟩
    show upk x.s k r i = x.s i
    rw [upk_other _ _ e]
theorem WmAt.cell (h : WmAt w lab X x) : (∀ k, k < 2 → w.cell? ⟨X.M, k, none⟩ = some (.pointer (some ⟨X.D k, 0, none⟩))) ∧ (∀ k, k < 2 → w.cell? ⟨X.M, 2 + k, none⟩ = some (.pointer (some ⟨X.R k, 0, none⟩))) ∧ (∀ k, k < 2 → w.cell? ⟨X.M, 4 + k, none⟩ = some (.int .i64 (x.f k : Nat))) ∧ (∀ k, k < 2 → w.cell? ⟨X.M, 6 + k, none⟩ = some (.int .i64 (x.g k : Nat))) := by
  obtain ⟨v, hb, _⟩ := h.mi
  refine ⟨fun k hk => ?_, fun k hk => ?_, fun k hk => ?_, fun k hk => ?_⟩ <;> (match k, hk with
    | 0, _ => exact hb.cell rfl
    | 1, _ => exact hb.cell rfl)
theorem WmAt.ms (h : WmAt w lab X x) : X.M < w.heap.size := h.lt _ (by rw [h.lm]; omega)
theorem WmAt.mfree (h : WmAt w lab X x) (j : Nat) : w.frozen? ⟨X.M, j, none⟩ = false := by
  obtain ⟨v, hb, _⟩ := h.mi
  exact hb.free j
theorem WmAt.nums (h : WmAt w lab X x) {j : Nat} {u : Value} {f g : Nat → Nat} (he : ∀ v, (wmcells X v x).set j u = wmcells X v { x with f := f, g := g }) : WmPost w lab X { x with f := f, g := g } (w.setCell ⟨X.M, j, none⟩ u) := by
  obtain ⟨v, hb, hm, h7⟩ := h.mi
  have hc : Chg (fun b => b = X.M) w (w.setCell ⟨X.M, j, none⟩ u) := chg1 _ _ _ _
  have n : ∀ b, lab b ≠ 4 → ¬ b = X.M := fun b h1 e => h1 (by rw [e]; exact h.lm)
  have hN : ∀ b, False → w.heap.size ≤ b ∧ b < (w.setCell ⟨X.M, j, none⟩ u).heap.size := fun _ h => h.elim
  refine h.turn (N := fun _ => False) (c := 4) (y := { x with f := f, g := g }) (by omega) (by omega) hN hc (fun b hb => by rw [hb, h.lm]; omega) ⟨v, ?_, hm.chg hc (fun g hg => n _ (by rw [h7 g hg]; omega)), fun g hg => by rw [relab_old (fun hh => hh)]; exact h7 g hg⟩ (fun i hi => .inl ⟨by omega, rfl, fun b hb => n _ (by omega)⟩) (h.pw.chg hc (n _ (by rw [h.lq]; omega))) (fun i hi => .inl ⟨by omega, rfl, fun b hb => n _ (by omega)⟩) h.ok
  rw [← he v]
  exact hb.set j u
theorem WmAt.foundE (h : WmAt w lab X x) {k : Nat} (hk : k < 2) : WmPost w lab X { x with f := upk x.f k (x.f k + 1) } (w.setCell ⟨X.M, 4 + k, none⟩ (.int .i64 ((x.f k + 1 : Nat) : Int))) :=
  h.nums (f := upk x.f k (x.f k + 1)) (g := x.g) (fun v => by
    obtain rfl | rfl : k = 0 ∨ k = 1 := by omega
    · rfl
    · rfl)
theorem WmAt.mended (h : WmAt w lab X x) {k : Nat} (hk : k < 2) : WmPost w lab X { x with g := upk x.g k (x.g k + 1) } (w.setCell ⟨X.M, 6 + k, none⟩ (.int .i64 ((x.g k + 1 : Nat) : Int))) :=
  h.nums (f := x.f) (g := upk x.g k (x.g k + 1)) (fun v => by
    obtain rfl | rfl : k = 0 ∨ k = 1 := by omega
    · rfl
    · rfl)
theorem WmAt.moves (h : WmAt w lab X x) (hc : Chg F w w') (hF : ∀ b, F b → lab b = 7) {v' : Value} {l' : List Pt} (hm : OwnM w' 0 v' l') (hok : ∀ q ∈ l', q.OK) (hv : ∀ g, v'.ownBlock = some g → lab g = 7 ∨ (w.heap.size ≤ g ∧ g < w'.heap.size)) :
    WmPost w lab X { x with mv := l' } (w'.setCell ⟨X.M, 8, none⟩ v') := by
  obtain ⟨v, hb, _, h7⟩ := h.mi
  have hc2 : Chg (fun b => lab b = 4 ∨ lab b = 7) w (w'.setCell ⟨X.M, 8, none⟩ v') := (hc.mono (fun b hf => .inr (hF b hf))).setCell (.inl (.inl h.lm)) 8 v'
  have hc3 : Chg (fun b => b = X.M) w' (w'.setCell ⟨X.M, 8, none⟩ v') := chg1 _ _ _ _
  have n : ∀ b, lab b ≠ 4 → lab b ≠ 7 → ¬ (lab b = 4 ∨ lab b = 7) := fun b h1 h2 hf => by omega
  have hN : ∀ b, (w.heap.size ≤ b ∧ v'.ownBlock = some b) → w.heap.size ≤ b ∧ b < (w'.setCell ⟨X.M, 8, none⟩ v').heap.size := fun b hb => ⟨hb.1, by
    rcases hv b hb.2 with h1 | h1
    · have := h.lt b (by omega); omega
    · simpa using h1.2⟩
  refine h.turn (N := fun b => w.heap.size ≤ b ∧ v'.ownBlock = some b) (c := 7) (y := { x with mv := l' }) (by omega) (by omega) hN hc2 (fun b hb => by omega) ⟨v', ?_, hm.chg hc3 (fun g hg e => ?_), fun g hg => ?_⟩ (fun i hi => .inl ⟨by omega, rfl, fun b hb => n _ (by omega) (by omega)⟩) (h.pw.chg hc2 (n _ (by rw [h.lq]; omega) (by rw [h.lq]; omega))) (fun i hi => .inl ⟨by omega, rfl, fun b hb => n _ (by omega) (by omega)⟩) hok
  · exact (hb.chg hc (fun hf => by have := hF _ hf; have := h.lm; omega)).set 8 v'
  · rcases hv g hg with h1 | h1
    · have := h.lm; rw [e] at h1; omega
    · have := h.ms; omega
  · rcases hv g hg with h1 | h1
    · have := h.lt g (by omega)
      rw [relab_old (fun hh => by omega)]; exact h1
    · rw [relab_new ⟨h1.1, hg⟩]
end
end Go.Proofs.YtmgagalhpkieoaaGreatDoor
/- How the document's mirror grows. -/
namespace Go.Proofs.YtmgagalhpkieoaaGreatDoor
open Go.RowKit

structure Bd (t : Rsk) (k : Nat) : Prop where
  m : t.m.length + t.cache.length ≤ k
  bad : t.bad.length ≤ k
  stuck : t.stuck.length ≤ k
  b : ∀ x ∈ t.m, x.2.length = 512
  c : ∀ x ∈ t.cache, x.1 < 65536 ∧ x.2.length = 512
  al : ∀ x, t.astray = some x → x < 65536
theorem Bd.up {t : Rsk} {k l : Nat} (h : Bd t k) (hl : k ≤ l) : Bd t l := ⟨Nat.le_trans h.m hl, Nat.le_trans h.bad hl, Nat.le_trans h.stuck hl, h.b, h.c, h.al⟩
theorem Bd.room {t : Rsk} {k : Nat} (h : Bd t k) (hk : k < 1000000) : Room t :=
  ⟨⟨by have := h.m; omega, by have := h.m; omega, by have := h.bad; omega, by have := h.stuck; omega⟩, by have := h.m; omega, h.b, h.c⟩
theorem Bd.kept {t : Rsk} {k : Nat} (h : Bd t k) {a : Nat} (ha : a < 65536) {b : d_Bs} (hb : b.length = 512) : Bd (rkept t a b) (k + 1) := by
  unfold rkept
  split
  · refine ⟨?_, Nat.le_succ_of_le h.bad, Nat.le_succ_of_le h.stuck, h.b, fun x hx => ?_, h.al⟩
    · have := h.m
      simp
      omega
    · rcases List.mem_append.1 hx with hx | hx
      · exact h.c x hx
      · simp at hx
        subst hx
        exact ⟨ha, hb⟩
  · exact h.up (by omega)
theorem Bd.grows {t u : Rsk} {k j : Nat} (h : Bd t k) (g : Grows t u j) (hj : j ≤ t.cache.length) (u' : Rsk) (e1 : u'.m = u.m) (e2 : u'.cache = []) (e3 : u'.bad = u.bad) (e4 : u'.stuck = u.stuck) (e5 : ∀ x, u'.astray = some x → u.astray = some x) : Bd u' (k + 1) := by
  refine ⟨?_, ?_, ?_, ?_, ?_, ?_⟩
  · rw [e1, e2]
    have := g.m
    have := h.m
    simp
    omega
  · rw [e3]
    have := g.bad
    have := h.bad
    omega
  · rw [e4, g.stuck]
    have := h.stuck
    omega
  · rw [e1]
    exact g.b
  · rw [e2]
    intro x hx
    simp at hx
  · intro x hx
    have := e5 x hx
    rw [g.astray] at this
    exact h.al x this
theorem grows_all {t : Rsk} (hb : ∀ x ∈ t.m, x.2.length = 512) (hc : ∀ x ∈ t.cache, x.1 < 65536 ∧ x.2.length = 512) : ∀ k, k ≤ t.cache.length → Grows t (rall t (t.cache.take k)) k
  | 0, _ => by simpa [rall] using Grows.refl hb
  | k + 1, hk => by
    obtain ⟨x, hx⟩ : ∃ x, t.cache[k]? = some x := ⟨_, List.getElem?_eq_getElem (by omega)⟩
    rw [take_one hx, rall_snoc]
    exact (grows_all hb hc k (by omega)).came x.1 (hc x (List.mem_of_getElem? hx)).2 (Nat.le_refl _)
theorem grows_set {t : Rsk} (zs : List Int) (hb : ∀ x ∈ t.m, x.2.length = 512) (hc : ∀ x ∈ t.cache, x.1 < 65536 ∧ x.2.length = 512) : ∀ k, k ≤ t.cache.length → Grows t (rset zs t k) k
  | 0, _ => Grows.refl hb
  | k + 1, hk => by
    obtain ⟨x, hx⟩ : ∃ x, t.cache[k]? = some x := ⟨_, List.getElem?_eq_getElem (by omega)⟩
    have ih := grows_set zs hb hc k (by omega)
    rcases pickOf_bounds zs k with hp | ⟨hp, hp2⟩
    · rw [rset_none hp]
      exact ih.skip
    · rw [rset_some hx (show pickOf zs k = ((pickOf zs k).toNat : Int) by omega)]
      exact ih.came x.1 (hc x (List.mem_of_getElem? hx)).2 (by omega)
theorem Bd.write {t : Rsk} {k : Nat} (h : Bd t k) (p : Pw) {a : Nat} (ha : a < 65536) (b : d_Bs) : Bd (rwrote t p a b).2.1 (k + 1) := by
  have hup := h.up (show k ≤ k + 1 by omega)
  unfold rwrote
  split
  · exact hup
  · split
    · exact hup
    · split
      · split
        · rename_i hbl
          split
          · exact hup
          · split
            · exact ⟨hup.m, hup.bad, hup.stuck, h.b, h.c, h.al⟩
            · split
              · rename_i x hx
                have h1 : Bd { t with astray := none } k := ⟨h.m, h.bad, h.stuck, h.b, h.c, fun x hx => by cases hx⟩
                exact h1.kept (h.al x hx) hbl
              · exact h.kept ha hbl
        · exact hup
      · exact hup
theorem Bd.flush {t : Rsk} {k : Nat} (h : Bd t k) (p : Pw) : Bd (rflushed t p).2.1 (k + 1) := by
  have hup := h.up (show k ≤ k + 1 by omega)
  unfold rflushed
  split
  · exact hup
  · split
    · exact hup
    · have g := grows_all h.b h.c t.cache.length (Nat.le_refl _)
      rw [List.take_length] at g
      exact h.grows g (Nat.le_refl _) _ rfl rfl rfl rfl (fun x hx => hx)
theorem Bd.crash {t : Rsk} {k : Nat} (h : Bd t k) (z : List Int) : Bd (rcrashed t z) (k + 1) := by
  have hup := h.up (show k ≤ k + 1 by omega)
  unfold rcrashed
  split
  · exact hup
  · exact h.grows (grows_set z h.b h.c t.cache.length (Nat.le_refl _)) (Nat.le_refl _) _ rfl rfl rfl rfl (fun x hx => by cases hx)
theorem Bd.fault {t : Rsk} {k : Nat} (h : Bd t k) (j a : Nat) (b : d_Bs) (hj : j ≤ 2) : Bd (rfault t j a b).2 (k + 1) := by
  have hup := h.up (show k ≤ k + 1 by omega)
  have hoth : ∀ x : Nat, (others t.cache x).length ≤ t.cache.length := fun x => List.length_filter_le _ _
  have hmem : ∀ (l : List (Nat × d_Bs)) (x : Nat) y, y ∈ others l x → y ∈ l := fun l x y hy => (List.mem_filter.1 hy).1
  unfold rfault
  split
  · split
    · exact hup
    · rename_i hn
      have hc : ∀ x ∈ others t.cache a, x.1 < 65536 ∧ x.2.length = 512 := fun x hx => h.c x (hmem _ _ x hx)
      have h1 := hoth a
      have h2 := h.m
      have h3 : (others t.m a).length ≤ t.m.length := List.length_filter_le _ _
      match j, hj with
      | 0, _ =>
        have hbl : b.length = 512 := Classical.byContradiction fun hh => hn ⟨rfl, hh⟩
        refine ⟨?_, hup.bad, hup.stuck, fun x hx => ?_, hc, h.al⟩
        · show (others t.m a ++ [(a, b)]).length + (others t.cache a).length ≤ k + 1
          simp
          omega
        · rcases List.mem_append.1 hx with hx | hx
          · exact h.b x (hmem _ _ x hx)
          · simp at hx
            subst hx
            exact hbl
      | 1, _ =>
        refine ⟨by show t.m.length + (others t.cache a).length ≤ k + 1; omega, ?_, hup.stuck, h.b, hc, h.al⟩
        have h4 : (woN t.bad a).length ≤ t.bad.length := List.length_filter_le _ _
        have h5 := h.bad
        show (woN t.bad a ++ [a]).length ≤ k + 1
        simp
        omega
      | 2, _ =>
        refine ⟨by show t.m.length + (others t.cache a).length ≤ k + 1; omega, hup.bad, ?_, h.b, hc, h.al⟩
        have h4 : (woN t.stuck a).length ≤ t.stuck.length := List.length_filter_le _ _
        have h5 := h.stuck
        show (woN t.stuck a ++ [a]).length ≤ k + 1
        simp
        omega
  · exact hup
theorem lastOf_memr {l : List (Nat × d_Bs)} {a : Nat} {b : d_Bs} (h : lastOf l a = some b) : ∃ x ∈ l, x.2 = b := by
  rcases lastOf_mem l none a b h with h | h
  · cases h
  · exact h
theorem Bd.look {t : Rsk} {k : Nat} (h : Bd t k) (a : Nat) (b : d_Bs) (hb : rlook t a = some b) : b.length = 512 := by
  unfold rlook at hb
  split at hb
  · cases hb
  · split at hb
    · split at hb
      · cases hb
      · split at hb
        · rename_i b' hl
          cases hb
          obtain ⟨x, hx, e⟩ := lastOf_memr hl
          rw [← e]; exact (h.c x hx).2
        · split at hb
          · cases hb
          · cases hb
            exact rblock_length a h.b
    · cases hb
theorem Bd.readB {t : Rsk} {k : Nat} (h : Bd t k) (p : Pw) (a : Nat) : (rreadB t p a).length ≤ 512 := by
  have h0 : ((rlook t a).getD []).length ≤ 512 := by
    cases hl : rlook t a with
    | none => simp
    | some b => have := h.look a b hl; simp; omega
  unfold rreadB
  split
  · simp
  · split
    · split
      · exact h0
      · simp
    · simp
structure Bw (y : Wi) (n : Nat) : Prop where
  d : ∀ k, k < 2 → Bd (y.d k) n
  s : ∀ k, k < 2 → ∀ i, i < 3 → ((y.s k).l i).length ≤ n
  f : ∀ k, y.f k ≤ n
  g : ∀ k, y.g k ≤ n
  mv : y.mv.length ≤ n
theorem Bw.up {y : Wi} {n m : Nat} (h : Bw y n) (hm : n ≤ m) : Bw y m :=
  ⟨fun k hk => (h.d k hk).up hm, fun k hk i hi => Nat.le_trans (h.s k hk i hi) hm, fun k => Nat.le_trans (h.f k) hm, fun k => Nat.le_trans (h.g k) hm, Nat.le_trans h.mv hm⟩
theorem Bw.disk {y : Wi} {n : Nat} (h : Bw y n) {k m : Nat} {t : Rsk} {p : Pw} (hm : n ≤ m) (ht : Bd t m) : Bw { y with d := upk y.d k t, p := p } m := by
  refine ⟨fun i hi => ?_, (h.up hm).s, (h.up hm).f, (h.up hm).g, (h.up hm).mv⟩
  show Bd (upk y.d k t i) m
  by_cases e : i = k
  · subst e; rw [upk_same]; exact ht
  · rw [upk_other _ _ e]; exact (h.d i hi).up hm
theorem Bw.wrote1 {y : Wi} {n : Nat} (h : Bw y n) (b : d_Bs) {c : Cpy} (hc : c.1 < 2 ∧ 0 < c.2 ∧ c.2 < 65536) : Bw (wrote1 kinR y b c).2 (n + 1) :=
  h.disk (by omega) ((h.d c.1 hc.1).write y.p hc.2.2 b)
theorem felt_eq (s : Nat → Rdk) (k a : Nat) : fell s k a = upk s k (felt (s k) a) := by
  unfold fell felt
  split
  · rfl
  · funext i; unfold upk; split <;> simp_all
theorem felt_len (r : Rdk) (a i : Nat) : ((felt r a).l i).length ≤ (r.l i).length + 1 := by
  unfold felt
  split
  · unfold Rdk.set
    simp only
    split
    · rename_i e
      subst e
      have : (wo (r.l 2) a).length ≤ (r.l 2).length := List.length_filter_le _ _
      simp
      omega
    · omega
  · omega
theorem Bw.mend1 {y : Wi} {n : Nat} (h : Bw y n) (p : Pt) (b : d_Bs) {c : Cpy} (hc : c.1 < 2 ∧ 0 < c.2 ∧ c.2 < 65536) : Bw (mend1 kinR p b y c) (n + 1) := by
  have h1 := h.wrote1 b hc
  unfold Go.Proofs.YtmgagalhpkieoaaGreatDoor.mend1
  split
  · refine ⟨h1.d, h1.s, h1.f, fun k => ?_, h1.mv⟩
    show upk y.g c.1 (y.g c.1 + 1) k ≤ n + 1
    by_cases e : k = c.1
    · subst e; rw [upk_same]; have := h.g c.1; omega
    · rw [upk_other _ _ e]; have := h.g k; omega
  · refine ⟨h1.d, fun k hk i hi => ?_, h1.f, h1.g, ?_⟩
    · show ((fell y.s c.1 c.2 k).l i).length ≤ n + 1
      rw [felt_eq]
      by_cases e : k = c.1
      · subst e
        rw [upk_same]
        have := felt_len (y.s c.1) c.2 i
        have := h.s c.1 hk i hi
        omega
      · rw [upk_other _ _ e]; have := h.s k hk i hi; omega
    · show (addMv y.mv p).length ≤ n + 1
      have := addMv_len y.mv p
      have := h.mv
      omega
theorem Bw.mends (p : Pt) (b : d_Bs) : ∀ (l : List Cpy) (y : Wi) (n : Nat), Bw y n → (∀ c ∈ l, c.1 < 2 ∧ 0 < c.2 ∧ c.2 < 65536) → Bw (mends kinR p b y l) (n + l.length)
  | [], _, _, h, _ => h
  | c :: l, _, n, h, hl => by
    have := Bw.mends p b l _ _ (h.mend1 p b (hl c (by simp))) (fun c hc => hl c (by simp [hc]))
    simp only [List.length_cons]
    rw [show n + (l.length + 1) = n + 1 + l.length by omega]
    exact this
theorem Bw.founds {y : Wi} {n : Nat} (h : Bw y n) (l : List Cpy) : Bw (founds y l) (n + l.length) :=
  ⟨(h.up (by omega)).d, (h.up (by omega)).s, fun k => by show y.f k + cntC l k ≤ _; have := h.f k; have := cntC_le l k; omega, (h.up (by omega)).g, (h.up (by omega)).mv⟩
theorem ill_ok {δ σ : Type} (o : Kin δ σ) (x : Mi δ σ) {p : Pt} (hp : p.OK) (all : Bool) : ∀ c ∈ ill o x p (seen o x p all), c.1 < 2 ∧ 0 < c.2 ∧ c.2 < 65536 := fun c hc => cps_ok hp c (seen_mem (List.mem_filter.1 hc).1)
theorem Bw.heal {y : Wi} {n : Nat} (h : Bw y n) {p : Pt} (hp : p.OK) (all : Bool) : Bw (healS kinR y p all) (n + 8) := by
  have hl := ill_len kinR y hp all
  have h1 := h.founds (ill kinR y p (seen kinR y p all))
  unfold healS endS
  split
  · split
    · exact (Bw.mends p _ _ _ _ h1 (ill_ok kinR y hp all)).up (by omega)
    · exact h1.up (by omega)
  · exact h.up (by omega)
theorem Bw.wrotes (b : d_Bs) : ∀ (l : List Cpy) (e : Int) (y : Wi) (n : Nat), Bw y n → (∀ c ∈ l, c.1 < 2 ∧ 0 < c.2 ∧ c.2 < 65536) → Bw (l.foldl (fun r c => (if (Go.Proofs.YtmgagalhpkieoaaGreatDoor.wrote1 kinR r.2 b c).1 = 0 then 0 else r.1, (Go.Proofs.YtmgagalhpkieoaaGreatDoor.wrote1 kinR r.2 b c).2)) (e, y)).2 (n + l.length)
  | [], _, _, _, h, _ => h
  | c :: l, e, _, n, h, hl => by
    simp only [List.foldl_cons, List.length_cons]
    rw [show n + (l.length + 1) = n + 1 + l.length by omega]
    exact Bw.wrotes b l _ _ _ (h.wrote1 b (hl c (by simp))) (fun c hc => hl c (by simp [hc]))
theorem Bw.write {y : Wi} {n : Nat} (h : Bw y n) {p : Pt} (hp : p.OK) (b : d_Bs) : Bw (writeR kinR y p b).2 (n + 8) := by
  have := copies_len hp
  unfold writeR
  split
  · split
    · exact (Bw.wrotes b _ _ _ _ h (cps_ok hp)).up (by omega)
    · exact h.up (by omega)
  · exact h.up (by omega)
theorem Bw.fl1 {y : Wi} {n : Nat} (h : Bw y n) {k : Nat} (hk : k < 2) : Bw (fl1 kinR y k).2 (n + 1) := h.disk (by omega) ((h.d k hk).flush y.p)
theorem Bw.flush {y : Wi} {n : Nat} (h : Bw y n) : Bw (flushR kinR y).2 (n + 8) := ((h.fl1 (k := 0) (by omega)).fl1 (k := 1) (by omega)).up (by omega)
end Go.Proofs.YtmgagalhpkieoaaGreatDoor
