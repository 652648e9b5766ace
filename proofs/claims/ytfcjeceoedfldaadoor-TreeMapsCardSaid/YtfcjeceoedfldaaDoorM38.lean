/- TreeMaps: the law's walk. -/
import Derived.Test.YtfcjeceoedfldaaDoorM37
import Derived.Test.YtfcjeceoedfldaaDoorM34
namespace Go.Proofs.YtfcjeceoedfldaaDoor
open Go.RowKit

attribute [local go_sem] Oper.semAt_some

structure Rc where
  root : Pt
  h : List Pt
  mids : List Pt
  v : Value
/-- A map of the law's, that lies in boxes. -/
def MapB (K : Bxs) (v : Value) (h : List Pt) : Prop := h.length = 64 ∧ ∃ b, RowB 37 41 b v 64 (prows h) ∧ ∀ y ∈ b, y ∈ K
theorem MapB.mono {K K' : Bxs} {v : Value} {h : List Pt} (m : MapB K v h) (hs : ∀ y ∈ K, y ∈ K') : MapB K' v h := by
  obtain ⟨h1, b, h2, h3⟩ := m
  exact ⟨h1, b, h2, fun y hy => hs y (h3 y hy)⟩
theorem MapB.form {K : Bxs} {v : Value} {h : List Pt} (m : MapB K v h) : ∃ g c, v = .slice (some ⟨g, 0, none⟩) 64 c ∧ 64 ≤ c := by
  obtain ⟨_, b, ⟨_, h2⟩, _⟩ := m
  rcases h2 with ⟨_, h3, _⟩ | ⟨g, cap, cs, e, _, hc, _⟩
  · omega
  · exact ⟨g, cap, e, hc⟩
theorem MapB.src {w X : World} {D : Nat} {s : Sh} {bs K : Bxs} {v : Value} {h : List Pt} (m : MapB K v h) (hF : Fr w D s bs X) (hs : ∀ y ∈ K, y ∈ bs) (hok : ∀ p ∈ h, p.OK) : SrcM X v h := by
  obtain ⟨h1, b, h2, h3⟩ := m
  rw [← h1] at h2
  exact OwnM.src (hF.row h2 (fun y hy => hs y (h3 y hy))) hok
/-- What stands at the head of the law's loop. -/
structure TmS (w : World) (D gR : Nat) (s : Sh) (k : Nat) (hist : List Rc) (r : Rc) (rv mv nv : Value) (rb mb nb K : Bxs) (X : World) : Prop where
  fr : Fr w D s ((gR, pcells r.root, 37) :: (rb ++ (mb ++ (nb ++ K)))) X
  roots : RowB 37 41 rb rv (k + 1) (prows ((hist ++ [r]).map Rc.root))
  maps : RowB 28 1 mb mv (k + 1) ((hist ++ [r]).map Rc.v)
  nods : RowB 37 41 nb nv (nodesOf r.root r.mids).length (prows (nodesOf r.root r.mids))
  len : hist.length = k
  rcs : ∀ q ∈ hist ++ [r], IsT s.blocks q.root q.h q.mids ∧ q.root.OK ∧ MapB K q.v q.h
  bad : s.bad = []
  room : s.room = -1
  bl : s.blocks.length ≤ 9 * k
  lim : Lim (5460 * k) s
  fine : ∀ p ∈ r.h, p.OK ∧ fineP p = true
  inv : LInv r.h
  nok : ∀ q ∈ nodesOf r.root r.mids, q.OK
  apR : Apart w rb ((gR, pcells r.root, 37) :: (mb ++ (nb ++ K)))
  apM : Apart w mb ((gR, pcells r.root, 37) :: (rb ++ (nb ++ K)))
  apG : Apart w [(gR, pcells r.root, 37)] (rb ++ (mb ++ (nb ++ K)))
/-- Where the loop begins. -/
theorem tm_start {w X : World} {D gR gH gr gm : Nat} {h0 : List Pt} (hh : h0 = List.replicate 64 zeroP) (hF : Fr w D sh0 [(gm, [.slice (some ⟨gH, 0, none⟩) 64 64], 28), (gr, pcells zeroP, 37), (gH, prows h0, 37), (gR, pcells zeroP, 37)] X) (hw : w.heap.size ≤ gR ∧ w.heap.size ≤ gr ∧ w.heap.size ≤ gm) (hn : gR ≠ gH ∧ gR ≠ gr ∧ gR ≠ gm ∧ gr ≠ gm ∧ gr ≠ gH ∧ gm ≠ gH) :
    TmS w D gR sh0 0 [] ⟨zeroP, h0, holes, .slice (some ⟨gH, 0, none⟩) 64 64⟩ (.slice (some ⟨gr, 0, none⟩) 1 1) (.slice (some ⟨gm, 0, none⟩) 1 1) (.slice none 0 0) [(gr, pcells zeroP, 37)] [(gm, [.slice (some ⟨gH, 0, none⟩) 64 64], 28)] [] [(gH, prows h0, 37)] X := by
  have hz := pcells_length zeroP_ok
  have hl : (prows h0).length = 64 * 41 := by
    rw [hh]
    show ((List.replicate 64 zeroP).flatMap pcells).length = _
    rw [List.length_flatMap, List.map_replicate, hz]
    simp
  have hp1 : prows [zeroP] = pcells zeroP := by simp [prows]
  refine ⟨hF.sub (fun y hy => by simp at hy ⊢; rcases hy with e | e | e | e <;> simp [e]), ⟨?_, .inr ⟨gr, 1, _, rfl, rfl, Nat.le_refl _, by unfold maxLen; omega, by rw [hz], ?_⟩⟩, ⟨rfl, .inr ⟨gm, 1, _, rfl, rfl, Nat.le_refl _, by unfold maxLen; omega, rfl, rfl⟩⟩, ⟨?_, .inl ⟨rfl, ?_, rfl⟩⟩, rfl, fun q hq => ?_, rfl, rfl, Nat.le_refl _, lim0, fun p hp => ?_, by show LInv h0; rw [hh]; exact inv_zero, fun q hq => ?_, fun y hy => ?_, fun y hy => ?_, fun y hy => ?_⟩
  · show (prows [zeroP]).length = _
    rw [hp1, hz]
  · show _ = prows [zeroP]
    rw [hp1, List.take_of_length_le (by omega)]
  · rw [nodes_zero]; rfl
  · rw [nodes_zero]; rfl
  · simp only [List.nil_append, List.mem_singleton] at hq
    subst hq
    exact ⟨by show IsT _ zeroP h0 holes; rw [hh]; exact tree_zero _, zeroP_ok, by show h0.length = 64; rw [hh]; simp, [(gH, prows h0, 37)], ⟨hl, .inr ⟨gH, 64, _, rfl, rfl, Nat.le_refl _, by unfold maxLen; omega, hl, List.take_of_length_le (by omega)⟩⟩, fun y hy => hy⟩
  · have hp' : p ∈ h0 := hp
    rw [hh] at hp'
    rw [List.eq_of_mem_replicate hp']; exact ⟨zeroP_ok, fine_zero⟩
  · rw [nodes_zero] at hq; simp at hq
  · simp only [List.mem_singleton] at hy
    subst hy
    refine ⟨hw.2.1, fun z hz => ?_⟩
    simp at hz
    rcases hz with rfl | rfl | rfl
    · exact hn.2.1
    · exact fun e => hn.2.2.2.1 e.symm
    · exact fun e => hn.2.2.2.2.1 e.symm
  · simp only [List.mem_singleton] at hy
    subst hy
    refine ⟨hw.2.2, fun z hz => ?_⟩
    simp at hz
    rcases hz with rfl | rfl | rfl
    · exact hn.2.2.1
    · exact hn.2.2.2.1
    · exact fun e => hn.2.2.2.2.2 e.symm
  · simp only [List.mem_singleton] at hy
    subst hy
    refine ⟨hw.1, fun z hz => ?_⟩
    simp at hz
    rcases hz with rfl | rfl | rfl
    · exact fun e => hn.2.1 e.symm
    · exact fun e => hn.2.2.1 e.symm
    · exact fun e => hn.1 e.symm
end Go.Proofs.YtfcjeceoedfldaaDoor
