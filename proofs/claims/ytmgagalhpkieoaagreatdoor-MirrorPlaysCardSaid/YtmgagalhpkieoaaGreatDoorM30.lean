/- A mirror whose disks' maps are old, and of which all else is cells: what a loop of a function asks. -/
import Derived.Test.YtmgagalhpkieoaaGreatDoorM29
import Derived.RangeFuncWrites
namespace Go.Proofs.YtmgagalhpkieoaaGreatDoor
open Go.RowKit

theorem CacheAt.shrink {S S' : Nat → Prop} {w : World} {v : Value} {l : List (Nat × d_Bs)} (h : CacheAt w S v l) (hs : ∀ k cs t, S k → Blk w k cs t → S' k) : CacheAt w S' v l := by
  obtain ⟨L, e, hw, h3⟩ := h
  refine ⟨L, e, fun x hx => ?_, ?_⟩
  · obtain ⟨h1, h2, h4, h5⟩ := hw x hx
    exact ⟨h1, h2, h4, hs _ _ _ h5 h4⟩
  · rcases h3 with h3 | ⟨ho, g, hg, hS⟩
    · exact .inl h3
    · obtain ⟨cs, hb⟩ := owns_blk ho hg
      exact .inr ⟨ho, g, hg, hs _ _ _ hS hb⟩
theorem DkAtM.shrink {w : World} {D Q M : Nat} {S S' : Nat → Prop} {s : Dsk} (h : DkAtM w D Q M S s) (hs : ∀ k cs t, S k → Blk w k cs t → S' k) (hm : S' M) (hq : ¬ S' Q) (hl : ∀ k, S' k → k < w.heap.size) : DkAtM w D Q M S' s := by
  obtain ⟨v, tz, h⟩ := h
  exact ⟨v, tz, ⟨h.blk, h.map, h.cache.shrink hs, hs _ _ _ h.sd h.blk, hm, hq, hl, h.tlt, h.teq, h.nlt⟩⟩
theorem DkAtM.chg {F S : Nat → Prop} {w w' : World} {D Q M : Nat} {s : Dsk} (h : DkAtM w D Q M S s) (hc : Chg F w w') (hn : ∀ k, S k → ¬ F k) : DkAtM w' D Q M S s := by
  obtain ⟨v, tz, h⟩ := h
  exact ⟨v, tz, ⟨h.blk.chg hc (hn _ h.sd), h.map.chg hc (hn _ h.sm), h.cache.chg hc hn, h.sd, h.sm, h.sq, fun k hk => Nat.lt_of_lt_of_le (h.lt k hk) hc.size, h.tlt, h.teq, h.nlt⟩⟩
def IsC (w : World) (b : Nat) : Prop := ∃ o : Obj, w.heap[b]? = some o ∧ o.isCells = true
theorem Blk.isC {w : World} {g : Nat} {cs : List Value} {t : TypeId} (h : Blk w g cs t) : IsC w g := ⟨_, h, rfl⟩
theorem IsC.chg {F : Nat → Prop} {w w' : World} {b : Nat} (h : IsC w b) (hc : Chg F w w') (hn : ¬ F b) : IsC w' b := by
  obtain ⟨o, h1, h2⟩ := h
  exact ⟨o, by rw [hc.block b (Array.getElem?_eq_some_iff.1 h1).1 hn]; exact h1, h2⟩
structure MiTi (B : Nat) (w : World) (lab : Nat → Nat) (P : Pl) (x : Mi Dsk Sp) : Prop where
  at' : MiAt w lab P x
  ti : ∃ A : Nat → Nat, (∀ k, k < 2 → A k < B ∧ DkAtM w (P.D k) P.Q (A k) (fun b => lab b = k + 1) (x.d k)) ∧ ∀ b, lab b ≠ 0 → (∃ k, k < 2 ∧ b = A k) ∨ IsC w b
section
variable {w w' : World} {lab : Nat → Nat} {P : Pl} {x : Mi Dsk Sp} {B : Nat}
theorem MiTi.out {F : Nat → Prop} (h : MiTi B w lab P x) (hc : Chg F w w') (hF : ∀ b, F b → lab b = 0) : MiTi B w' lab P x := by
  obtain ⟨A, h1, h2⟩ := h.ti
  have n : ∀ b, lab b ≠ 0 → ¬ F b := fun b hb hf => hb (hF b hf)
  refine ⟨h.at'.out hc hF, A, fun k hk => ⟨(h1 k hk).1, (h1 k hk).2.chg hc (fun b hb => n b (by rw [hb]; omega))⟩, fun b hb => ?_⟩
  rcases h2 b hb with h3 | h3
  · exact .inl h3
  · exact .inr (h3.chg hc (n b hb))
theorem MiTi.below (h : MiTi B w lab P x) (hb : Below w.heap.size w w') : MiTi B w' lab P x := h.out (F := fun _ => False) (Chg.of_below hb) (fun _ hf => hf.elim)
theorem MiTi.grown (h : MiTi B w lab P x) {row : Option Nat} (hg : w.grownBy w' row) (hr : ∀ r, row = some r → B ≤ r ∧ ∃ o : Obj, w.heap[r]? = some o ∧ o.isCells = false) : MiTi B w' lab P x := by
  have hc : Chg (fun b => row = some b) w w' := (Chg.refl _ w).grown hg (fun k hk => .inl hk)
  obtain ⟨A, h1, h2⟩ := h.ti
  refine h.out hc (fun b hb => ?_)
  by_cases e : lab b = 0
  · exact e
  · obtain ⟨hB, o, ho, hn⟩ := hr b hb
    rcases h2 b e with ⟨k, hk, rfl⟩ | ⟨o', ho', hn'⟩
    · have := (h1 k hk).1; omega
    · rw [ho] at ho'; cases ho'; rw [hn] at hn'; cases hn'
theorem MiAt.tidyA (h : MiAt w lab P x) {A : Nat → Nat} (hAB : ∀ k, k < 2 → A k < B ∧ DkAtM w (P.D k) P.Q (A k) (fun b => lab b = k + 1) (x.d k)) : ∃ lab', MiTi B w lab' P x ∧ Stp w lab w lab' := by
  classical
  have hA := fun k hk => (hAB k hk).2
  have hAl : ∀ k, k < 2 → lab (A k) = k + 1 := fun k hk => by obtain ⟨v, tz, h⟩ := hA k hk; exact h.sm
  let lab' : Nat → Nat := fun b => if (∃ k, k < 2 ∧ b = A k) ∨ IsC w b then lab b else 0
  have hk : ∀ b, ((∃ k, k < 2 ∧ b = A k) ∨ IsC w b) → lab' b = lab b := fun b hb => if_pos hb
  have hz : ∀ b, lab' b ≠ 0 → (((∃ k, k < 2 ∧ b = A k) ∨ IsC w b) ∧ lab' b = lab b) := fun b hb => by
    by_cases e : (∃ k, k < 2 ∧ b = A k) ∨ IsC w b
    · exact ⟨e, if_pos e⟩
    · exact absurd (if_neg e) hb
  have hDk : ∀ k, k < 2 → DkAtM w (P.D k) P.Q (A k) (fun b => lab' b = k + 1) (x.d k) := fun k hk2 => by
    refine (hA k hk2).shrink (fun b cs t hb hbk => by show lab' b = k + 1; rw [hk b (.inr hbk.isC)]; exact hb) (by show lab' (A k) = k + 1; rw [hk _ (.inl ⟨k, hk2, rfl⟩)]; exact hAl k hk2) (fun hq => ?_) (fun b hb => ?_)
    · have hq : lab' P.Q = k + 1 := hq
      rw [(hz _ (by omega)).2, h.lq] at hq; omega
    · have hb : lab' b = k + 1 := hb
      exact h.lt b (by rw [← (hz b (by omega)).2]; omega)
  obtain ⟨v, hb, hm, h7⟩ := h.mi
  have hT : ∀ {g : Nat} {cs : Array Value} {t : TypeId} {fr : Nat × Nat}, w.heap[g]? = some (.cells cs t fr) → lab' g = lab g := fun {g cs t fr} hh => hk g (.inr ⟨_, hh, rfl⟩)
  refine ⟨lab', ⟨⟨⟨v, hb, hm, fun g hg => ?_⟩, fun k hk2 => (hDk k hk2).at', h.pw, h.sp, by rw [hk _ (.inr h.pw.blk.isC)]; exact h.lq, by rw [hk _ (.inr hb.isC)]; exact h.lm, by rw [hk _ (.inr h.sp.blk.isC)]; exact h.lk, fun b hb => ?_,
    fun b hb => h.lt b (by rw [← (hz b hb).2]; exact hb), h.ok, h.tab, h.rt, ?_, ?_⟩, A, fun k hk2 => ⟨?_, hDk k hk2⟩, fun b hb => (hz b hb).1⟩, Chg.refl _ _, fun b _ => ?_⟩
  · obtain ⟨cs, hbg⟩ := owns_blk hm hg
    rw [hk _ (.inr hbg.isC)]
    exact h7 g hg
  · rcases hb with rfl | rfl
    · rw [hk _ (.inr (h.sp.ax 0 (by omega)).isC)]; exact h.lb _ (.inl rfl)
    · rw [hk _ (.inr (h.sp.ax 1 (by omega)).isC)]; exact h.lb _ (.inr rfl)
  · obtain ⟨t, fr, hh⟩ := h.tab
    rw [hT hh]; exact h.l8.1
  · obtain ⟨t, fr, hh⟩ := h.rt
    rw [hT hh]; exact h.l8.2
  · exact (hAB k hk2).1
  · by_cases e : (∃ k, k < 2 ∧ b = A k) ∨ IsC w b
    · exact .inl (if_pos e)
    · exact .inr (if_neg e)
theorem MiAt.tidy (h : MiAt w lab P x) : ∃ lab', MiTi w.heap.size w lab' P x ∧ Stp w lab w lab' := by
  obtain ⟨M0, v0, t0, h0⟩ := h.dk 0 (by omega)
  obtain ⟨M1, v1, t1, h1⟩ := h.dk 1 (by omega)
  refine h.tidyA (A := fun k => if k = 0 then M0 else M1) (fun k hk => ?_)
  obtain rfl | rfl : k = 0 ∨ k = 1 := by omega
  · exact ⟨h0.lt _ h0.sm, v0, t0, h0⟩
  · exact ⟨h1.lt _ h1.sm, v1, t1, h1⟩
theorem MiTi.found (h : MiTi B w lab P x) {k : Nat} (hk : k < 2) : MiTi B (w.setCell ⟨P.M, 2 + 2 * k, none⟩ (.int .i64 ((x.f k + 1 : Nat) : Int))) lab P { x with f := upk x.f k (x.f k + 1) } := by
  obtain ⟨A, h1, h2⟩ := h.ti
  have hc : Chg (fun b => b = P.M) w (w.setCell ⟨P.M, 2 + 2 * k, none⟩ (.int .i64 ((x.f k + 1 : Nat) : Int))) := chg1 _ _ _ _
  obtain ⟨v, hb, _⟩ := h.at'.mi
  refine ⟨(h.at'.foundE hk).1, A, fun i hi => ⟨(h1 i hi).1, (h1 i hi).2.chg hc (fun b hb e => ?_)⟩, fun b hb' => ?_⟩
  · have hb : lab b = i + 1 := hb
    rw [e, h.at'.lm] at hb
    omega
  · rcases h2 b hb' with h3 | h3
    · exact .inl h3
    · right
      by_cases e : b = P.M
      · rw [e]; exact (hb.set _ _).isC
      · exact h3.chg hc e
theorem MiTi.wrote (h : MiAt w lab P x) {A : Nat → Nat} (h1 : ∀ k, k < 2 → A k < B ∧ DkAtM w (P.D k) P.Q (A k) (fun b => lab b = k + 1) (x.d k)) (h2 : ∀ b, lab b ≠ 0 → (∃ k, k < 2 ∧ b = A k) ∨ IsC w b) {k : Nat} (hk : k < 2) {s' : Dsk} {p' : Pw}
    (hw : DkAtM w' (P.D k) P.Q (A k) (ExtC (fun b => lab b = k + 1) w w') s') (hp : PwAt w' P.Q p') (hc : Chg (fun b => lab b = k + 1 ∨ b = P.Q) w w') :
    ∃ lab', MiTi B w' lab' P { x with d := upk x.d k s', p := p' } ∧ Stp w lab w' lab' ∧ KeepsFrom B w w' := by
  have hN : ∀ b, (w.heap.size ≤ b ∧ ∃ cs t, Blk w' b cs t) → w.heap.size ≤ b ∧ b < w'.heap.size := fun b ⟨e1, _, _, e2⟩ => ⟨e1, e2.lt⟩
  obtain ⟨hm, hs⟩ := h.stepN hk (N := fun b => w.heap.size ≤ b ∧ ∃ cs t, Blk w' b cs t) hN hw.at' hp hc
  have old : ∀ b, lab b ≠ 0 → relab (fun b => w.heap.size ≤ b ∧ ∃ cs t, Blk w' b cs t) lab (k + 1) b = lab b := fun b hb => relab_old (fun hn => by have := (hN b hn).1; have := h.lt b hb; omega)
  obtain ⟨lab', ht, hs'⟩ := hm.tidyA (B := B) (A := A) (fun i hi => ⟨(h1 i hi).1, by
    by_cases e : i = k
    · subst e
      show DkAtM w' (P.D i) P.Q (A i) _ (upk x.d i s' i)
      rw [upk_same]
      refine hw.mono (fun b hb => ?_) (fun hb => ?_) (fun b hb => ?_)
      · show relab _ lab (i + 1) b = i + 1
        rcases hb with hb | hb
        · rw [old b (by rw [hb]; omega)]; exact hb
        · exact relab_new hb
      · have hb : relab _ lab (i + 1) P.Q = i + 1 := hb
        rw [old _ (by rw [h.lq]; omega), h.lq] at hb; omega
      · exact hm.lt b (by show relab _ lab (i + 1) b ≠ 0; have hb : relab _ lab (i + 1) b = i + 1 := hb; rw [hb]; omega)
    · show DkAtM w' (P.D i) P.Q (A i) _ (upk x.d k s' i)
      rw [upk_other _ _ e]
      refine ((h1 i hi).2.chg hc (fun b hb hf => ?_)).mono (fun b hb => ?_) (fun hb => ?_) (fun b hb => ?_)
      · have hb : lab b = i + 1 := hb
        rcases hf with hf | rfl
        · omega
        · rw [h.lq] at hb; omega
      · have hb : lab b = i + 1 := hb
        show relab _ lab (k + 1) b = i + 1
        rw [old b (by omega)]; exact hb
      · have hb : relab _ lab (k + 1) P.Q = i + 1 := hb
        rw [old _ (by rw [h.lq]; omega), h.lq] at hb; omega
      · exact hm.lt b (by show relab _ lab (k + 1) b ≠ 0; have hb : relab _ lab (k + 1) b = i + 1 := hb; rw [hb]; omega)⟩)
  refine ⟨lab', ht, hs.trans hs', hc.size, fun b o hB ho hn => ?_⟩
  rw [hc.block b (Array.getElem?_eq_some_iff.1 ho).1 (fun hf => ?_)]
  · exact ho
  · rcases hf with hf | rfl
    · rcases h2 b (by rw [hf]; omega) with ⟨j, hj, rfl⟩ | ⟨o', ho', hn'⟩
      · have := (h1 j hj).1; omega
      · rw [ho] at ho'; cases ho'; rw [hn] at hn'; cases hn'
    · obtain ⟨o', ho', hn'⟩ := h.pw.blk.isC
      rw [ho] at ho'; cases ho'; rw [hn] at hn'; cases hn'
end
end Go.Proofs.YtmgagalhpkieoaaGreatDoor
