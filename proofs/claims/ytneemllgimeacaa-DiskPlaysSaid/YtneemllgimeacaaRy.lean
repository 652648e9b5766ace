/- The document's disk: one of its cells is put anew. -/
import Derived.Test.YtneemllgimeacaaRc
namespace Go.Proofs.Ytneemllgimeacaa
open Go.RowKit

theorem OwnP.nd {w : World} {B D : Nat} {v : Value} {l : List (Nat × Bs)} {cs : List Value} (h : OwnP w B v l) (hb : Blk w D cs 40) : ∀ g, v.ownBlock = some g → g ≠ D := fun g hg e => by
  obtain ⟨cs', hb'⟩ := owns_blk h hg
  subst e
  exact absurd (hb'.same hb) (by decide)
theorem OwnN.nd {w : World} {B D : Nat} {v : Value} {l : List Nat} {cs : List Value} (h : OwnN w B v l) (hb : Blk w D cs 40) : ∀ g, v.ownBlock = some g → g ≠ D := fun g hg e => by
  obtain ⟨cs', hb'⟩ := owns_blk h hg
  subst e
  exact absurd (hb'.same hb) (by decide)
theorem ext_own {S : Nat → Prop} {w w' : World} {v : Value} {n : Nat} {e B k : Nat} {xs : List Value} (h : w'.ownsRow B e k v n xs) (hs : ∀ g, v.ownBlock = some g → S g ∨ w.heap.size ≤ g) : ∀ g, v.ownBlock = some g → Ext S w w' g := fun g hg => by
  rcases hs g hg with h1 | h1
  · exact .inl h1
  · exact .inr ⟨h1, (h.lt g hg).2⟩
theorem RkIn.put {w Z : World} {D q j : Nat} {u vm vc vb vs va vm' vc' vb' vs' va' : Value} {S F : Nat → Prop} {t t' : Rsk} (h : RkIn w D q vm vc vb vs va S t) (hq : q < w.heap.size) (hz : Chg F w Z) (hFD : ¬ F D)
    (hcells : (rcells q vm vc vb vs va t).set j u = rcells q vm' vc' vb' vs' va' t') (hn : t'.n ≤ 65536)
    (om : OwnP Z 0 vm' t'.m) (oc : OwnP Z 0 vc' t'.cache) (ob : OwnN Z 0 vb' t'.bad) (os : OwnN Z 0 vs' t'.stuck) (oa : OwnN Z 0 va' t'.astray.toList)
    (sm : ∀ g, vm'.ownBlock = some g → S g ∨ w.heap.size ≤ g) (sc : ∀ g, vc'.ownBlock = some g → S g ∨ w.heap.size ≤ g) (sb : ∀ g, vb'.ownBlock = some g → S g ∨ w.heap.size ≤ g) (ss : ∀ g, vs'.ownBlock = some g → S g ∨ w.heap.size ≤ g) (sa : ∀ g, va'.ownBlock = some g → S g ∨ w.heap.size ≤ g)
    (ap : ∀ g, vc'.ownBlock = some g → vm'.ownBlock ≠ some g) :
    RkIn (Z.setCell ⟨D, j, none⟩ u) D q vm' vc' vb' vs' va' (Ext S w (Z.setCell ⟨D, j, none⟩ u)) t' ∧ Chg (fun k => F k ∨ k = D) w (Z.setCell ⟨D, j, none⟩ u) := by
  have hb : Blk Z D (rcells q vm vc vb vs va t) 40 := h.blk.chg hz hFD
  have hc1 : Chg (fun k => k = D) Z (Z.setCell ⟨D, j, none⟩ u) := chg1 j u
  have hc : Chg (fun k => F k ∨ k = D) w (Z.setCell ⟨D, j, none⟩ u) := (hz.mono (fun _ h => .inl h)).trans hc1 (fun i hi => .inl (.inr hi))
  have om1 := owns_chg om hc1 (om.nd hb)
  have oc1 := owns_chg oc hc1 (oc.nd hb)
  have ob1 := owns_chg ob hc1 (ob.nd hb)
  have os1 := owns_chg os hc1 (os.nd hb)
  have oa1 := owns_chg oa hc1 (oa.nd hb)
  refine ⟨⟨?_, om1, oc1, ob1, os1, oa1, ext_own om1 sm, ext_own oc1 sc, ext_own ob1 sb, ext_own os1 ss, ext_own oa1 sa, ap, .inl h.sd, ?_, ?_, hn⟩, hc⟩
  · rw [← hcells]
    exact hb.set j u
  · rintro (hh | hh)
    · exact h.sq hh
    · omega
  · rintro k (hk | hk)
    · exact Nat.lt_of_lt_of_le (h.lt k hk) hc.size
    · exact hk.2
theorem RkIn.mono {w : World} {D q : Nat} {vm vc vb vs va : Value} {S S' : Nat → Prop} {t : Rsk} (h : RkIn w D q vm vc vb vs va S t) (hs : ∀ k, S k → S' k) (hq : ¬ S' q) (hl : ∀ k, S' k → k < w.heap.size) : RkIn w D q vm vc vb vs va S' t :=
  ⟨h.blk, h.om, h.oc, h.ob, h.os, h.oa, fun g hg => hs g (h.sm g hg), fun g hg => hs g (h.sc g hg), fun g hg => hs g (h.sb g hg), fun g hg => hs g (h.ss g hg), fun g hg => hs g (h.sa g hg), h.ap, hs D h.sd, hq, hl, h.nlt⟩
theorem RkAt.mono {w : World} {D q : Nat} {S S' : Nat → Prop} {t : Rsk} (h : RkAt w D q S t) (hs : ∀ k, S k → S' k) (hq : ¬ S' q) (hl : ∀ k, S' k → k < w.heap.size) : RkAt w D q S' t := by
  obtain ⟨vm, vc, vb, vs, va, h⟩ := h
  exact ⟨vm, vc, vb, vs, va, h.mono hs hq hl⟩
theorem RkAt.lt {w : World} {D q : Nat} {S : Nat → Prop} {t : Rsk} (h : RkAt w D q S t) : ∀ k, S k → k < w.heap.size := by obtain ⟨_, _, _, _, _, h⟩ := h; exact h.lt
theorem RkAt.nq {w : World} {D q : Nat} {S : Nat → Prop} {t : Rsk} (h : RkAt w D q S t) : ¬ S q := by obtain ⟨_, _, _, _, _, h⟩ := h; exact h.sq
theorem RkAt.sd {w : World} {D q : Nat} {S : Nat → Prop} {t : Rsk} (h : RkAt w D q S t) : S D := by obtain ⟨_, _, _, _, _, h⟩ := h; exact h.sd
/-- .. grown: what the disk has, and what was made since. -/
theorem RkAt.ext {w w0 : World} {D q : Nat} {S : Nat → Prop} {t : Rsk} (h : RkAt w D q S t) (hq : q < w0.heap.size) : RkAt w D q (Ext S w0 w) t :=
  h.mono (fun _ h => .inl h) (fun hh => by rcases hh with hh | hh; exact h.nq hh; omega) (fun k hk => by rcases hk with hk | hk; exact h.lt k hk; exact hk.2)
theorem RkAt.ext2 {w w1 w0 : World} {D q : Nat} {S : Nat → Prop} {t : Rsk} (h : RkAt w D q (Ext S w1 w) t) (h01 : w0.heap.size ≤ w1.heap.size) (hq : q < w0.heap.size) : RkAt w D q (Ext S w0 w) t :=
  h.mono (fun k hk => by rcases hk with hk | hk; exact .inl hk; exact .inr ⟨by omega, hk.2⟩) (fun hh => by
    rcases hh with hh | hh
    · exact h.nq (.inl hh)
    · omega) (fun k hk => by
    rcases hk with hk | hk
    · exact h.lt k (.inl hk)
    · exact hk.2)
theorem own_new {w0 w : World} {e B k n : Nat} {v : Value} {xs : List Value} {S : Nat → Prop} (h : w.ownsRow B e k v n xs) (hB : w0.heap.size ≤ B) : ∀ g, v.ownBlock = some g → S g ∨ w0.heap.size ≤ g := fun g hg => .inr (Nat.le_trans hB (h.lt g hg).1)
theorem not_old {w w' : World} {e B k n e' B' k' n' : Nat} {v v' : Value} {xs xs' : List Value} (h : w.ownsRow B e k v n xs) (h' : w'.ownsRow B' e' k' v' n' xs') (hB : w.heap.size ≤ B') : ∀ g, v.ownBlock = some g → v'.ownBlock ≠ some g := fun g hg e => by
  have h1 := (h.lt g hg).2
  have h2 := (h'.lt g e).1
  omega
theorem own_lt {w w' : World} {e B k n e' B' k' n' : Nat} {v v' : Value} {xs xs' : List Value} (h : w.ownsRow B e k v n xs) (h' : w'.ownsRow B' e' k' v' n' xs') (hB : w.heap.size ≤ B') : ∀ g, v'.ownBlock = some g → v.ownBlock ≠ some g := fun g hg e => not_old h h' hB g e hg
theorem own0 {w : World} {e B k n : Nat} {v : Value} {xs : List Value} (h : w.ownsRow B e k v n xs) : w.ownsRow 0 e k v n xs := ⟨h.1, h.2.imp id fun ⟨g, cap, cur, h1, _, h3⟩ => ⟨g, cap, cur, h1, Nat.zero_le _, h3⟩⟩
theorem own_slice3 {w : World} {B e k n : Nat} {v : Value} {xs : List Value} (h : w.ownsRow B e k v n xs) : ∃ sp n c, v = .slice sp n c := by
  obtain ⟨sp, c, e⟩ := own_slice h
  exact ⟨sp, n, c, e⟩
/-- The blocks are put anew: a new row, and one more. -/
theorem came_m {W Z : World} {D q a : Nat} {vm vc vb vs va v : Value} {S : Nat → Prop} {t : Rsk} (h : RkIn W D q vm vc vb vs va S t) (hq : q < W.heap.size) (hz : Below W.heap.size W Z) (ho : OwnP Z W.heap.size v (others t.m a)) (b : Bs) {g c : Nat} (hg : Blk Z g (pcells (a, b)) 92) (hl : t.m.length < 1000000) (ty : TypeId) :
    ∃ v' w, (Builtin.append_ #[37, 37] ty #[v, .slice (some ⟨g, 0, none⟩) 1 c]).run Try.prog Z = .ok v' w ∧ (∃ sp n c, v' = .slice sp n c) ∧ (∃ u, w.cell? ⟨D, 2, none⟩ = some u) ∧ w.frozen? ⟨D, 2, none⟩ = false ∧ Below W.heap.size W w ∧
      RkIn (w.setCell ⟨D, 2, none⟩ v') D q v' vc vb vs va (Ext S W (w.setCell ⟨D, 2, none⟩ v')) { t with m := others t.m a ++ [(a, b)] } ∧ Chg (fun k => k = D) W (w.setCell ⟨D, 2, none⟩ v') := by
  have hlo : (others t.m a).length < 1000000 := Nat.lt_of_le_of_lt (List.length_filter_le _ _) hl
  obtain ⟨v', w, hr, ho', hgr, _⟩ := ownP_app ho hz.size hlo (a, b) (adr := ⟨g, 0, none⟩) (c := c) (fun j u hj => by rw [Addr.add_mid, Nat.zero_add]; exact hg.cell hj) ty
  have hb : Below W.heap.size W w := hz.grown hgr hz.size (fun j hj => (ho.lt j hj).1)
  have hc : Chg (fun _ => False) W w := Chg.of_below hb
  have hbD : Blk w D (rcells q vm vc vb vs va t) 40 := h.blk.chg hc id
  obtain ⟨h1, h2⟩ := h.put (j := 2) (u := v') (vm' := v') (vc' := vc) (vb' := vb) (vs' := vs) (va' := va) (t' := { t with m := others t.m a ++ [(a, b)] }) hq hc id rfl h.nlt (own0 ho') (owns_chg h.oc hc (fun _ _ h => h)) (owns_chg h.ob hc (fun _ _ h => h)) (owns_chg h.os hc (fun _ _ h => h)) (owns_chg h.oa hc (fun _ _ h => h))
    (own_new ho' (Nat.le_refl _)) (fun g hg => .inl (h.sc g hg)) (fun g hg => .inl (h.sb g hg)) (fun g hg => .inl (h.ss g hg)) (fun g hg => .inl (h.sa g hg)) (not_old h.oc ho' (Nat.le_refl _))
  exact ⟨v', w, hr, own_slice3 ho', ⟨_, hbD.cell rfl⟩, hbD.free 2, hb, h1, h2.mono (fun k hk => by rcases hk with hk | hk; exact hk.elim; exact hk)⟩
/-- The bad addresses are put anew: a new row. -/
theorem came_b {W Z : World} {D q : Nat} {vm vc vb vs va v : Value} {S : Nat → Prop} {t : Rsk} {l : List Nat} (h : RkIn W D q vm vc vb vs va S t) (hq : q < W.heap.size) (hz : Below W.heap.size W Z) (ho : OwnN Z W.heap.size v l) :
    (∃ sp n c, v = .slice sp n c) ∧ (∃ u, Z.cell? ⟨D, 4, none⟩ = some u) ∧ Z.frozen? ⟨D, 4, none⟩ = false ∧
      RkIn (Z.setCell ⟨D, 4, none⟩ v) D q vm vc v vs va (Ext S W (Z.setCell ⟨D, 4, none⟩ v)) { t with bad := l } ∧ Chg (fun k => k = D) W (Z.setCell ⟨D, 4, none⟩ v) := by
  have hc : Chg (fun _ => False) W Z := Chg.of_below hz
  have hbD : Blk Z D (rcells q vm vc vb vs va t) 40 := h.blk.chg hc id
  obtain ⟨h1, h2⟩ := h.put (j := 4) (u := v) (vm' := vm) (vc' := vc) (vb' := v) (vs' := vs) (va' := va) (t' := { t with bad := l }) hq hc id rfl h.nlt (owns_chg h.om hc (fun _ _ h => h)) (owns_chg h.oc hc (fun _ _ h => h)) (own0 ho) (owns_chg h.os hc (fun _ _ h => h)) (owns_chg h.oa hc (fun _ _ h => h))
    (fun g hg => .inl (h.sm g hg)) (fun g hg => .inl (h.sc g hg)) (own_new ho (Nat.le_refl _)) (fun g hg => .inl (h.ss g hg)) (fun g hg => .inl (h.sa g hg)) h.ap
  exact ⟨own_slice3 ho, ⟨_, hbD.cell rfl⟩, hbD.free 4, h1, h2.mono (fun k hk => by rcases hk with hk | hk; exact hk.elim; exact hk)⟩
end Go.Proofs.Ytneemllgimeacaa
