/- The law's rows turned. -/
import Derived.Test.YtneemllgimeacaaTx
namespace Go.Proofs.Ytneemllgimeacaa
open Go.RowKit

/-- The world behind the two slices of one. -/
def two1 (w : World) (b : Bs) : World := (w.alloc (.cells #[VT b] 9)).alloc (.cells #[.slice (some ⟨w.heap.size, 0, none⟩) 1 1] 65)
theorem two1_below (w : World) (b : Bs) : Below w.heap.size w (two1 w b) := ((Below.refl _ _).alloc (Nat.le_refl _) _).alloc (by simp) _
theorem push_new {w : World} {F : Nat → Prop} {v : Value} {ms : List (List Bs)} {us : List Value} (h : MayAt w F v ms us) (hF : ∀ k, F k → k < w.heap.size) (b : Bs) (hl : ms.length < 1000000) (ty : TypeId) :
    ∃ v' w', (Builtin.append_ #[64, 64] ty #[v, .slice (some ⟨w.heap.size + 1, 0, none⟩) 1 1]).run Try.prog (two1 w b) = .ok v' w' ∧ (∃ us', MayAt w' F v' (ms ++ [[b]]) us') ∧ Chg (fun k => v.ownBlock = some k) w w' := by
  have hb := two1_below w b
  have hin : Inner (two1 w b) F (.slice (some ⟨w.heap.size, 0, none⟩) 1 1) [b] :=
    (inner_new w F b hF).next (G := fun _ => False) (Chg.of_below ((Below.refl _ _).alloc (Nat.le_refl _) _)) (fun _ _ hh => hh) (fun _ h => .inl h)
  have hold : ∀ (u' : Value) (k : Nat), u'.ownBlock = some k → k < w.heap.size → u'.ownBlock ≠ (Value.slice (some ⟨w.heap.size, 0, none⟩) 1 1).ownBlock := fun u' k hk hl e => by
    rw [hk] at e
    simp [Value.ownBlock] at e
    omega
  obtain ⟨v', w', hr, hm, hc, _⟩ := MayAt.push (h.grown hb) (u := .slice (some ⟨w.heap.size, 0, none⟩) 1 1) (x := [b]) hin (fun i u' hu => by
      obtain ⟨y, hy⟩ : ∃ y, ms[i]? = some y := ⟨_, List.getElem?_eq_getElem (by have := (List.getElem?_eq_some_iff.1 hu).1; rw [h.len] at this; exact this)⟩
      have hi := h.inner i y u' hy hu
      obtain ⟨k, hk, hkl⟩ := owns_form hi.own hi.pos
      exact hold u' k hk hkl) (fun e => by
      rcases hvo : v.ownBlock with _ | k
      · rw [hvo] at e; simp [Value.ownBlock] at e
      · exact hold v k hvo ((h.own.lt k hvo).2) e) (fun k hk => Nat.lt_of_lt_of_le (hF k hk) hb.size) h.outer rfl (adr := ⟨w.heap.size + 1, 0, none⟩) (c := 1) (fun j y hj => by
      have := cell_one (w.alloc (.cells #[VT b] 9)) (.slice (some ⟨w.heap.size, 0, none⟩) 1 1) 65 j y hj
      simpa [two1] using this) hl ty
  exact ⟨v', w', hr, ⟨_, hm⟩, (Chg.of_below hb).trans hc (fun i hi => .inl hi)⟩
/-- One block's row takes one more text, and is put back. -/
theorem row_more {w : World} {F : Nat → Prop} {g n cap i : Nat} {ms : List (List Bs)} {us : List Value} {x : List Bs} (h : MayAt w F (.slice (some ⟨g, 0, none⟩) n cap) ms us) (hn : n = ms.length) (hi : i < n) (hx : ms[i]? = some x) (hF : ∀ k, F k → k < w.heap.size) (b : Bs) (hl : x.length < 1000000) {B : Nat} (hgB : g < B) (hB : ∀ (j : Nat) (u : Value) (k : Nat), us[j]? = some u → u.ownBlock = some k → k < B) :
    ∃ u, us[i]? = some u ∧ w.cell? ⟨g, i, none⟩ = some u ∧ ∀ ty : TypeId, ∃ u' w1, (Builtin.append_ #[65, 65] ty #[u, .slice (some ⟨w.heap.size, 0, none⟩) 1 1]).run Try.prog (w.alloc (.cells #[VT b] 9)) = .ok u' w1 ∧ w1.cell? ⟨g, i, none⟩ = some u ∧ w1.frozen? ⟨g, i, none⟩ = false ∧ (∃ sp m c, u' = .slice sp m c) ∧
      MayAt (w1.setCell ⟨g, i, none⟩ u') F (.slice (some ⟨g, 0, none⟩) n cap) (ms.set i (x ++ [b])) (us.set i u') ∧ Chg (fun k => ¬ F k ∧ k < B) w (w1.setCell ⟨g, i, none⟩ u') := by
  obtain ⟨u, hu⟩ : ∃ u, us[i]? = some u := ⟨_, List.getElem?_eq_getElem (by rw [h.len, ← hn]; exact hi)⟩
  have hcell := h.own.cells (g := g) rfl i u hu
  rw [Addr.add_mid, Nat.zero_add] at hcell
  refine ⟨u, hu, hcell, fun ty => ?_⟩
  have hb : Below w.heap.size w (w.alloc (.cells #[VT b] 9)) := (Below.refl _ _).alloc (Nat.le_refl _) _
  have h1 := h.grown hb
  have hin := h1.inner i x u hx hu
  obtain ⟨u', w1, hr, hi2, hc, ho⟩ := hin.push b (fun k hk => Nat.lt_of_lt_of_le (hF k hk) hb.size) (adr := ⟨w.heap.size, 0, none⟩) (c := 1) (cell_one w (VT b) 9) hl ty
  have hgne : ∀ k, u.ownBlock = some k → k ≠ g := fun k hk e => h.outer i u hu (by rw [hk, e]; rfl)
  have hgl : g < w.heap.size := (h.own.lt g rfl).2
  have hcg := hc.block g (by simp; omega) (fun e => hgne g e rfl)
  obtain ⟨cs, hbg⟩ := owns_blk h1.own (g := g) rfl
  have hbg1 := hbg.chg hc (fun e => hgne g e rfl)
  have hcell1 : w1.cell? ⟨g, i, none⟩ = some u := (World.cell?_of_block (w := w.alloc (.cells #[VT b] 9)) hcg).trans ((hb.cell (p := ⟨g, i, none⟩) hgl).trans hcell)
  have hput := MayAt.put (G := fun k => u.ownBlock = some k) h1 hn hi hc (fun k hk => by rw [hu]; exact hk) hi2 (fun k hk => by
    rw [hu]
    rcases ho with ho | ho
    · left; rw [← hk, ho]; rfl
    · right; rw [ho] at hk; cases hk; exact Nat.le_refl _) (fun j u'' hj e => h1.outer j u'' hj (by rw [e]; rfl))
  have hshape : ∃ sp m c, u' = .slice sp m c := by rcases hi2.own.2 with ⟨h, _⟩ | ⟨_, _, _, h, _⟩ <;> exact ⟨_, _, _, h⟩
  have hcu : Chg (fun k => ¬ F k ∧ k < B) w w1 := (Chg.of_below hb).trans hc (fun k hk => .inl ⟨hin.out k hk, hB i u k hu hk⟩)
  exact ⟨u', w1, hr, hcell1, hbg1.free i, hshape, hput, hcu.setCell (.inl ⟨h.out g rfl, hgB⟩) i u'⟩
/-- One block's row is a new one of one text. -/
theorem row_one {w : World} {F : Nat → Prop} {g n cap i : Nat} {ms : List (List Bs)} {us : List Value} (h : MayAt w F (.slice (some ⟨g, 0, none⟩) n cap) ms us) (hn : n = ms.length) (hi : i < n) (hF : ∀ k, F k → k < w.heap.size) (b : Bs) :
    (∃ u, (w.alloc (.cells #[VT b] 9)).cell? ⟨g, i, none⟩ = some u) ∧ (w.alloc (.cells #[VT b] 9)).frozen? ⟨g, i, none⟩ = false ∧
      (∃ us', MayAt ((w.alloc (.cells #[VT b] 9)).setCell ⟨g, i, none⟩ (.slice (some ⟨w.heap.size, 0, none⟩) 1 1)) F (.slice (some ⟨g, 0, none⟩) n cap) (ms.set i [b]) us') ∧ Chg (fun k => ¬ F k) w ((w.alloc (.cells #[VT b] 9)).setCell ⟨g, i, none⟩ (.slice (some ⟨w.heap.size, 0, none⟩) 1 1)) := by
  obtain ⟨u, hu⟩ : ∃ u, us[i]? = some u := ⟨_, List.getElem?_eq_getElem (by rw [h.len, ← hn]; exact hi)⟩
  have hcell := h.own.cells (g := g) rfl i u hu
  rw [Addr.add_mid, Nat.zero_add] at hcell
  have hb : Below w.heap.size w (w.alloc (.cells #[VT b] 9)) := (Below.refl _ _).alloc (Nat.le_refl _) _
  have hgl : g < w.heap.size := (h.own.lt g rfl).2
  obtain ⟨cs, hbg⟩ := owns_blk (h.grown hb).own (g := g) rfl
  have hput := MayAt.put (G := fun _ => False) h hn hi (Chg.of_below hb) (fun k hk => hk.elim) (inner_new w F b hF) (fun k hk => by
    right
    simp [Value.ownBlock] at hk
    omega) (fun j u'' hj e => h.outer j u'' hj (by rw [e]; rfl))
  exact ⟨⟨u, (hb.cell (p := ⟨g, i, none⟩) hgl).trans hcell⟩, hbg.free i, ⟨_, hput⟩, (Chg.of_below hb).setCell (.inl (h.out g rfl)) i _⟩
end Go.Proofs.Ytneemllgimeacaa
