/- The document's disk: in memory; what becomes of it. -/
import Derived.Test.YtjfedhaafdfibaaKra
namespace Go.Proofs.Ytjfedhaafdfibaa
open Go.RowKit

/-- A disk of the document: how many blocks; which addresses are used (0), held (1), sick (2). -/
structure Rdk where
  n : Nat
  l : Nat → List Nat
def Rdk.set (rd : Rdk) (i : Nat) (m : List Nat) : Rdk := ⟨rd.n, fun x => if x = i then m else rd.l x⟩
def upV (v : Nat → Value) (i : Nat) (u : Value) : Nat → Value := fun x => if x = i then u else v x
/-- .. lies at R; lab tells whose a block is. -/
structure RdIn (w : World) (lo : Nat) (lab : Nat → Nat) (b R : Nat) (v : Nat → Value) (rd : Rdk) : Prop where
  blk : Blk w R [.int .i64 (rd.n : Int), v 0, v 1, v 2] 31
  row : ∀ i, i < 3 → OwnU w lo (v i) (rd.l i) ∧ ∀ g, (v i).ownBlock = some g → lab g = b + i
  loR : lo ≤ R
/-- What its calls turn. -/
def Foot (w : World) (lo : Nat) (lab : Nat → Nat) (b R : Nat) (g : Nat) : Prop := g = R ∨ (lo ≤ g ∧ b ≤ lab g ∧ lab g < b + 3 ∧ ∃ cs, Blk w g cs 33)
theorem RdIn.lo {w : World} {lo : Nat} {lab : Nat → Nat} {b R : Nat} {v : Nat → Value} {rd : Rdk} (h : RdIn w lo lab b R v rd) : lo ≤ w.heap.size := Nat.le_of_lt (Nat.lt_of_le_of_lt h.loR h.blk.lt)
theorem RdIn.chg {F : Nat → Prop} {w w' : World} {lo : Nat} {lab lab' : Nat → Nat} {b R : Nat} {v : Nat → Value} {rd : Rdk} (h : RdIn w lo lab b R v rd) (hc : Chg F w w') (hl : ∀ g, g < w.heap.size → lab' g = lab g) (hF : ∀ g, F g → ¬ Foot w lo lab b R g) : RdIn w' lo lab' b R v rd :=
  ⟨h.blk.chg hc (fun hf => hF _ hf (.inl rfl)), fun i hi => ⟨(h.row i hi).1.chg hc (fun g hg hf => hF g hf (.inr (by
    obtain ⟨h1, h2, h3⟩ := (h.row i hi).1.blk hg
    exact ⟨h1, by rw [(h.row i hi).2 g hg]; omega, by rw [(h.row i hi).2 g hg]; omega, h3⟩))), fun g hg => by rw [hl g ((h.row i hi).1.blk hg).2.1]; exact (h.row i hi).2 g hg⟩, h.loR⟩
theorem RdIn.below {w w' : World} {lo : Nat} {lab : Nat → Nat} {b R : Nat} {v : Nat → Value} {rd : Rdk} (h : RdIn w lo lab b R v rd) (hc : Below w.heap.size w w') : RdIn w' lo lab b R v rd :=
  h.chg (Chg.of_below (F := fun _ => False) hc) (fun _ _ => rfl) (fun _ h => h.elim)
def labs (w : World) (lab : Nat → Nat) (c : Nat) : Nat → Nat := fun g => if g < w.heap.size then lab g else c
theorem cells_R (n : Int) (v : Nat → Value) (i : Nat) (hi : i < 3) (u : Value) : [.int .i64 n, v 0, v 1, v 2].set (i + 1) u = [.int .i64 n, upV v i u 0, upV v i u 1, upV v i u 2] := by
  obtain rfl | rfl | rfl : i = 0 ∨ i = 1 ∨ i = 2 := by omega
  · rfl
  · rfl
  · rfl
/-- One row is another one, and the disk is told of it. -/
theorem RdIn.put {F : Nat → Prop} {w w' : World} {lo : Nat} {lab lab' : Nat → Nat} {b R : Nat} {v : Nat → Value} {rd : Rdk} (h : RdIn w lo lab b R v rd) {i : Nat} (hi : i < 3) {v' : Value} {l' : List Nat} (hlab : ∀ g, g < w.heap.size → lab' g = lab g)
    (hc : Chg F w w') (hF : ∀ g, F g → (v i).ownBlock = some g) (ho : OwnU w' lo v' l') (hl : ∀ g, v'.ownBlock = some g → lab' g = b + i) :
    RdIn (w'.setCell ⟨R, i + 1, none⟩ v') lo lab' b R (upV v i v') (rd.set i l') ∧ Chg (Foot w lo lab b R) w (w'.setCell ⟨R, i + 1, none⟩ v') := by
  have hFR : ¬ F R := fun hf => by
    obtain ⟨_, _, cs, hb⟩ := (h.row i hi).1.blk (hF R hf)
    exact absurd (h.blk.same hb) (by decide)
  have hb := (h.blk.chg hc hFR).set (i + 1) v'
  have hRo : ∀ (u : Value) (m : List Nat), OwnU w' lo u m → OwnU (w'.setCell ⟨R, i + 1, none⟩ v') lo u m := fun u m hu => hu.chg (chg1 w' R (i + 1) v') (fun g hg e => by
    subst e
    obtain ⟨_, _, cs, hb2⟩ := hu.blk hg
    exact absurd ((h.blk.chg hc hFR).same hb2) (by decide))
  refine ⟨⟨?_, fun j hj => ?_, h.loR⟩, ?_⟩
  · rw [cells_R _ v i hi v'] at hb
    exact hb
  · unfold upV Rdk.set
    by_cases e : j = i
    · subst e
      simp only [if_pos]
      exact ⟨hRo _ _ ho, hl⟩
    · simp only [if_neg e]
      refine ⟨hRo _ _ ((h.row j hj).1.chg hc (fun g hg hf => ?_)), fun g hg => ?_⟩
      · have h1 := (h.row j hj).2 g hg
        have h2 := (h.row i hi).2 g (hF g hf)
        omega
      · rw [hlab g ((h.row j hj).1.blk hg).2.1]
        exact (h.row j hj).2 g hg
  · refine (Chg.trans (F := Foot w lo lab b R) (G := F) (Chg.refl _ w) hc (fun g hf => ?_)).trans (chg1 w' R (i + 1) v') (fun g hg => .inl (.inl hg))
    obtain ⟨h1, h2, h3⟩ := (h.row i hi).1.blk (hF g hf)
    have h4 := (h.row i hi).2 g (hF g hf)
    exact .inl (.inr ⟨h1, by omega, by omega, h3⟩)
/-- What is known behind a call. -/
def RdPost (w : World) (lo : Nat) (lab : Nat → Nat) (b R : Nat) (rd : Rdk) (w' : World) : Prop := ∃ lab' v, (∀ g, g < w.heap.size → lab' g = lab g) ∧ RdIn w' lo lab' b R v rd ∧ Chg (Foot w lo lab b R) w w'
theorem foot_below {w w' : World} {lo : Nat} {lab lab' : Nat → Nat} {b R : Nat} (hl : ∀ g, g < w.heap.size → lab' g = lab g) (_ : R < w.heap.size) (hc : Chg (Foot w lo lab b R) w w') : ∀ g, Foot w' lo lab' b R g → Foot w lo lab b R g ∨ w.heap.size ≤ g := fun g hg => by
  by_cases hlt : g < w.heap.size
  · left
    rcases hg with hg | ⟨h1, h2, h3, cs, hb⟩
    · exact .inl hg
    · rw [hl g hlt] at h2 h3
      refine Classical.byContradiction fun hn => hn (.inr ⟨h1, h2, h3, cs, ?_⟩)
      unfold Blk at hb ⊢
      rw [← hc.block g hlt hn]
      exact hb
  · exact .inr (by omega)
theorem RdPost.trans {w w' w2 : World} {lo : Nat} {lab : Nat → Nat} {b R : Nat} {rd2 : Rdk} (hR : R < w.heap.size) {lab' : Nat → Nat} (hl : ∀ g, g < w.heap.size → lab' g = lab g) (hc : Chg (Foot w lo lab b R) w w') (h : RdPost w' lo lab' b R rd2 w2) : RdPost w lo lab b R rd2 w2 := by
  obtain ⟨lab2, v2, h1, h2, h3⟩ := h
  exact ⟨lab2, v2, fun g hg => by rw [h1 g (Nat.lt_of_lt_of_le hg hc.size), hl g hg], h2, hc.trans h3 (foot_below hl hR hc)⟩
section
variable {w : World} {lo : Nat} {lab : Nat → Nat} {b R : Nat} {v : Nat → Value} {rd : Rdk}
/-- 'd.X = append(d.X, ..)'. -/
theorem RdIn.app' (h : RdIn w lo lab b R v rd) {i : Nat} (hi : i < 3) (hl : (rd.l i).length ≤ 1000) {m : List Nat} (hm : m.length ≤ 1000) {w1 : World} (hb : Below w.heap.size w w1) {sp : Option Addr} {c : Nat} (hsrc : SrcU w1 sp m) (hz : sp = none → m.length = 0 ∧ c = 0) (ty : TypeId) :
    ∃ v' w', (Builtin.append_ #[29, 29] ty #[v i, .slice sp m.length c]).run Try.prog w1 = .ok v' w' ∧ (∃ s k c', v' = .slice s k c') ∧ w'.cell? ⟨R, i + 1, none⟩ = some (v i) ∧ w'.frozen? ⟨R, i + 1, none⟩ = false ∧ RdPost w lo lab b R (rd.set i (rd.l i ++ m)) (w'.setCell ⟨R, i + 1, none⟩ v') ∧ ∀ g cs t, Blk w g cs t → t ≠ 33 → Blk w' g cs t := by
  have h1 := h.below hb
  obtain ⟨v', w', hr, ho, hg, hw⟩ := ownU_app (h1.row i hi).1 h1.lo hl hm hsrc hz ty
  have hc : Chg (fun k => some k = (v i).ownBlock) w1 w' := (Chg.refl _ w1).grown hg (fun k hk => .inl hk.symm)
  have hold : ∀ g, (v i).ownBlock = some g → g < w.heap.size := fun g hg => ((h.row i hi).1.blk hg).2.1
  have hcw : Chg (fun k => some k = (v i).ownBlock) w w' := (Chg.of_below hb).trans' hc
  have hbR : Blk w' R [.int .i64 (rd.n : Int), v 0, v 1, v 2] 31 := h1.blk.chg hc (fun e => by
    obtain ⟨_, _, cs, hb2⟩ := (h1.row i hi).1.blk e.symm
    exact absurd (h1.blk.same hb2) (by decide))
  have := h.put hi (lab' := labs w lab (b + i)) (v' := v') (l' := rd.l i ++ m) (fun g hg => by simp [labs, hg]) hcw (fun g hg => hg.symm) ho (fun g hg => by
    rcases hw with hw | hw
    · rw [hw] at hg
      have := hold g hg
      simp only [labs, if_pos this]
      exact (h.row i hi).2 g hg
    · rw [hw] at hg
      cases hg
      have := hb.size
      simp only [labs, if_neg (Nat.not_lt.2 this)])
  obtain ⟨s, c', e, _⟩ := ho.form
  refine ⟨v', w', hr, ⟨s, _, c', e⟩, hbR.cell ?_, hbR.free _, ⟨_, _, fun g hg => by simp [labs, hg], this.1, this.2⟩, fun g cs t hg ht => hg.chg hcw fun e => ?_⟩
  · obtain rfl | rfl | rfl : i = 0 ∨ i = 1 ∨ i = 2 := by omega
    all_goals rfl
  · obtain ⟨_, _, cs2, hb2⟩ := (h.row i hi).1.blk e.symm
    exact ht (hg.same hb2)
theorem RdIn.app (h : RdIn w lo lab b R v rd) {i : Nat} (hi : i < 3) (hl : (rd.l i).length ≤ 1000) {m : List Nat} (hm : m.length ≤ 1000) {w1 : World} (hb : Below w.heap.size w w1) {sp : Option Addr} {c : Nat} (hsrc : SrcU w1 sp m) (hz : sp = none → m.length = 0 ∧ c = 0) (ty : TypeId) :
    ∃ v' w', (Builtin.append_ #[29, 29] ty #[v i, .slice sp m.length c]).run Try.prog w1 = .ok v' w' ∧ (∃ s k c', v' = .slice s k c') ∧ w'.cell? ⟨R, i + 1, none⟩ = some (v i) ∧ w'.frozen? ⟨R, i + 1, none⟩ = false ∧ RdPost w lo lab b R (rd.set i (rd.l i ++ m)) (w'.setCell ⟨R, i + 1, none⟩ v') := by
  obtain ⟨v', w', h1, h2, h3, h4, h5, _⟩ := h.app' hi hl hm hb hsrc hz ty
  exact ⟨v', w', h1, h2, h3, h4, h5⟩
/-- 'd.X = ..' of new memory, or of none. -/
theorem RdIn.new (h : RdIn w lo lab b R v rd) {i : Nat} (hi : i < 3) {w' : World} (hb : Below w.heap.size w w') {v' : Value} {l' : List Nat} (ho : OwnU w' w.heap.size v' l') :
    w'.cell? ⟨R, i + 1, none⟩ = some (v i) ∧ w'.frozen? ⟨R, i + 1, none⟩ = false ∧ RdPost w lo lab b R (rd.set i l') (w'.setCell ⟨R, i + 1, none⟩ v') := by
  have ho' : OwnU w' lo v' l' := by
    refine ⟨ho.1, ?_⟩
    rcases ho.2 with hn | ⟨g, cap, cur, e, hg, rest⟩
    · exact .inl hn
    · exact .inr ⟨g, cap, cur, e, Nat.le_trans h.lo hg, rest⟩
  have := h.put hi (lab' := labs w lab (b + i)) (v' := v') (l' := l') (fun g hg => by simp [labs, hg]) (Chg.of_below (F := fun _ => False) hb) (fun g hg => hg.elim) ho' (fun g hg => by
    have := (ho.blk hg).1
    simp only [labs, if_neg (Nat.not_lt.2 this)])
  have hbR := h.blk.below hb h.blk.lt
  refine ⟨hbR.cell ?_, hbR.free _, _, _, fun g hg => by simp [labs, hg], this.1, this.2⟩
  obtain rfl | rfl | rfl : i = 0 ∨ i = 1 ∨ i = 2 := by omega
  all_goals rfl
theorem RdIn.nil (h : RdIn w lo lab b R v rd) {i : Nat} (hi : i < 3) : RdPost w lo lab b R (rd.set i []) (w.setCell ⟨R, i + 1, none⟩ (.slice none 0 0)) := (h.new hi (Below.refl _ _) (ownU_nil _ _)).2.2
end
end Go.Proofs.Ytjfedhaafdfibaa
