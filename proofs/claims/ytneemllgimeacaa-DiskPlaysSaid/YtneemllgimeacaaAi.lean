/- What a fault does to an address. -/
import Derived.Test.YtneemllgimeacaaFl
namespace Go.Proofs.Ytneemllgimeacaa
open Go.RowKit

/-- A cache whose row lies in R. -/
def CacheIn (w : World) (S R : Nat → Prop) (v : Value) (l : List (Nat × Bs)) : Prop :=
  ∃ L : List (Nat × Nat × Bs), L.map (fun x => (x.1, x.2.2)) = l ∧ Writes w S L ∧
    ((∃ sp, v = .slice sp 0 0 ∧ L = []) ∨ (w.ownsRow 0 100 2 v L.length (crow L) ∧ ∃ g, v.ownBlock = some g ∧ R g))
theorem CacheIn.at {w : World} {S R S' : Nat → Prop} {v : Value} {l : List (Nat × Bs)} (h : CacheIn w S R v l) (h1 : ∀ k, S k → S' k) (h2 : ∀ k, R k → S' k) : CacheAt w S' v l := by
  obtain ⟨L, e1, e2, e3⟩ := h
  refine ⟨L, e1, e2.mono h1, ?_⟩
  rcases e3 with h3 | ⟨h3, g, h4, h5⟩
  · exact .inl h3
  · exact .inr ⟨h3, g, h4, h2 _ h5⟩
theorem CacheIn.form {S R : Nat → Prop} {w : World} {v : Value} {l : List (Nat × Bs)} (h : CacheIn w S R v l) : ∃ sp cap, v = .slice sp l.length cap ∧ l.length ≤ cap ∧ cap ≤ maxLen := (h.at (S' := fun _ => True) (fun _ _ => trivial) (fun _ _ => trivial)).form
/-- .. in a later world: what it reaches has not turned. -/
theorem CacheIn.chg {F S R R' : Nat → Prop} {w w' : World} {v : Value} {l : List (Nat × Bs)} (h : CacheIn w S R v l) (hc : Chg F w w') (h5 : ∀ k cs, F k → ¬ Blk w k cs 5) (h100 : ∀ k cs, F k → ¬ Blk w k cs 100) (hR : ∀ k, R k → R' k) : CacheIn w' S R' v l := by
  obtain ⟨L, e1, e2, e3⟩ := h
  refine ⟨L, e1, e2.turned hc h5, ?_⟩
  rcases e3 with h3 | ⟨h3, g, h4, h6⟩
  · exact .inl h3
  · refine .inr ⟨owns_chg h3 hc (fun g' hg' hf => ?_), g, h4, hR _ h6⟩
    obtain ⟨cs, hb⟩ := owns_blk h3 hg'
    exact h100 _ _ hf hb
theorem app_cacheR {w : World} {S R : Nat → Prop} {v : Value} {l : List (Nat × Bs)} (h : CacheIn w S R v l) {ad gb : Nat} {b : Bs} (had : ad < 65536) (hb : b.length = 512) (hblk : Blk w gb (b.map V8) 5) (hgS : S gb) {adr : Addr} {c : Nat}
    (hnews : ∀ j u, (wcells ad gb)[j]? = some u → w.cell? (adr.add j) = some u) (hl : l.length < 1000000) (ty : TypeId) :
    ∃ v' w', (Builtin.append_ #[73, 73] ty #[v, .slice (some adr) 1 c]).run Try.prog w = .ok v' w' ∧ (∀ R' : Nat → Prop, (∀ k, R k → R' k) → (w.heap.size < w'.heap.size → R' w.heap.size) → CacheIn w' S R' v' (l ++ [(ad, b)])) ∧ Chg (Rows100 w R) w w' := by
  obtain ⟨i, hi, hz0, hz1, hz2⟩ : ∃ i, Try.prog.info? 100 = some i ∧ i.zero = some (.agg #[.int .u16 0, .slice none 0 0]) ∧ i.size = 2 ∧ i.bytes = 32 := by
    have := infoW
    cases hq : Try.prog.info? 100 with
    | none => rw [hq] at this; simp at this
    | some i =>
      rw [hq] at this
      simp at this
      exact ⟨i, rfl, this.1, this.2.1, this.2.2⟩
  obtain ⟨L, rfl, hw, h3⟩ := h
  rw [List.length_map] at hl
  have fin : ∀ (v' : Value) (w' : World), w'.ownsRow 0 100 2 v' (L.length + 1) (crow L ++ wcells ad gb) → Chg (Rows100 w R) w w' → (∀ g, v'.ownBlock = some g → R g ∨ g = w.heap.size) →
      ∀ R' : Nat → Prop, (∀ k, R k → R' k) → (w.heap.size < w'.heap.size → R' w.heap.size) → CacheIn w' S R' v' (L.map (fun x => (x.1, x.2.2)) ++ [(ad, b)]) := by
    intro v' w' ho hc hwh R' h1 h4
    refine ⟨L ++ [(ad, gb, b)], by simp, ?_, .inr ⟨?_, ?_⟩⟩
    · have hbyte : ∀ k cs, Rows100 w R k → ¬ Blk w k cs 5 := fun k cs ⟨_, cs', hb'⟩ hb'' => by
        have e := hb'.same hb''
        exact absurd e (by decide)
      intro x hx
      rcases List.mem_append.1 hx with hx | hx
      · exact (hw.turned hc hbyte) x hx
      · obtain rfl : x = (ad, gb, b) := by simpa using hx
        exact ⟨had, hb, hblk.chg hc (fun hf => hbyte _ _ hf hblk), hgS⟩
    · rw [List.length_append, crow_snoc]
      exact ho
    · obtain ⟨g, hg, hgl⟩ := owns_form ho (by omega)
      refine ⟨g, hg, ?_⟩
      rcases hwh g hg with h5 | rfl
      · exact h1 _ h5
      · exact h4 hgl
  rcases h3 with ⟨sp, rfl, rfl⟩ | ⟨ho, g, hg, hSg⟩
  · cases sp with
    | none =>
      obtain ⟨v', w', hr, h2, h3, h4, h5⟩ := run_append_own_at (P := Try.prog) w 0 73 ty 100 i _ 2 32 Try.underlying73 hi hz0 hz1 hz2 rfl (by decide) (.slice none 0 0) 0 [] (World.ownsRow_nil _ _ _ _) adr 1 c (wcells ad gb) rfl hnews (one_wcells _ _) (by unfold maxLen; omega) (by omega) (Nat.zero_le _)
      have hc : Chg (Rows100 w R) w w' := (Chg.refl _ w).grown h3 (fun k hk => by cases hk)
      refine ⟨v', w', hr, fin v' w' h2 hc (fun g hg => ?_), hc⟩
      rcases h5 with h5 | h5
      · rw [h5] at hg; cases hg
      · rw [h5] at hg; cases hg; exact .inr rfl
    | some ad0 =>
      have hr := run_append_grow (P := Try.prog) w 73 ty 100 i _ Try.underlying73 hi hz0 ad0 0 0 [] (by simp) (fun j v hv => by simp at hv) adr 1 c (wcells ad gb) (by rw [hz1]; rfl) hnews (by omega) (by omega) (growslice_fits (by omega) (by rw [hz2]; omega))
      have hc : Chg (Rows100 w R) w (w.drew.alloc (.cells (#[] ++ (wcells ad gb).toArray ++ Builtin.zeroCells (Value.agg #[.int .u16 0, .slice none 0 0]).cells (grownCap w 1 0 100 - 1)) 100)) := ((Chg.refl _ w).drew).alloc _
      refine ⟨_, _, hr, fin _ _ ?_ hc (fun g hg => by simp [Value.ownBlock] at hg; exact .inr hg.symm), hc⟩
      have hge := grownCap_ge w 1 0 100
      refine ⟨rfl, .inr ⟨w.heap.size, _, _, rfl, Nat.zero_le _, heap_alloc_new w.drew _, hge, grownCap_le_maxLen w 1 0 100 (by unfold maxLen; omega), ?_, ?_⟩⟩
      · simp only [Array.size_append, List.size_toArray, size_zeroCells]
        simp [Value.cells, wcells]
        omega
      · simp [crow, wcells]
  · obtain ⟨v', w', hr, h2, h3, h4, h5⟩ := run_append_own_at (P := Try.prog) w 0 73 ty 100 i _ 2 32 Try.underlying73 hi hz0 hz1 hz2 rfl (by decide) v L.length (crow L) ho adr 1 c (wcells ad gb) rfl hnews (one_wcells _ _) (by unfold maxLen; omega) (by omega) (Nat.zero_le _)
    have hc : Chg (Rows100 w R) w w' := (Chg.refl _ w).grown h3 (fun k hk => by rw [hg] at hk; cases hk; exact .inl ⟨hSg, owns_blk ho hg⟩)
    refine ⟨v', w', hr, fin v' w' h2 hc (fun g' hg' => ?_), hc⟩
    rcases h5 with h5 | h5
    · rw [h5, hg] at hg'; cases hg'; exact .inl hSg
    · rw [h5] at hg'; cases hg'; exact .inr rfl

def others (l : List (Nat × Bs)) (a : Nat) : List (Nat × Bs) := l.filter (fun x => x.1 != a)
theorem others_snoc (l : List (Nat × Bs)) (x : Nat × Bs) (a : Nat) : others (l ++ [x]) a = if x.1 = a then others l a else others l a ++ [x] := by
  unfold others
  rw [List.filter_append]
  by_cases h : x.1 = a
  · rw [if_pos h]; simp [h]
  · rw [if_neg h]; simp [h]
def ailed (s : Dsk) (a n : Nat) (ft : Bk → Bk) : Int × Dsk := if a < s.n ∧ n = 512 then (0, { s with mem := Upd s.mem a (ft (s.mem a)), cache := others s.cache a }) else (1, s)
theorem Taken.round {F S : Nat → Prop} {B D : Nat} {w w' : World} {v : Value} {L : List (Nat × Nat × Bs)} {cs : List Value} (h : Taken w v S L) (hc : Chg F w w') (hF : ∀ k, F k → k = D ∨ B ≤ k) (hS : ∀ k, S k → k < B) (hD : Blk w D cs 75) : Taken w' v S L := by
  refine ⟨fun x hx => ?_, ?_⟩
  · obtain ⟨h1, h2, h3, h4⟩ := h.1 x hx
    refine ⟨h1, h2, h3.chg hc (fun hf => ?_), h4⟩
    rcases hF _ hf with e | e
    · rw [e] at h3; exact absurd (h3.same hD) (by decide)
    · have := hS _ h4; omega
  · rcases h.2 with h3 | ⟨h3, g, h4, h5⟩
    · exact .inl h3
    · refine .inr ⟨owns_chg h3 hc (fun g' hg' hf => ?_), g, h4, h5⟩
      have e1 : g' = g := by rw [h4] at hg'; cases hg'; rfl
      subst e1
      rcases hF _ hf with e | e
      · obtain ⟨cs', hb⟩ := owns_blk h3 h4
        rw [e] at hb
        exact absurd (hb.same hD) (by decide)
      · have := hS _ h5; omega
/-- Rows made since the world of size B. -/
def Since (B : Nat) (w : World) (k : Nat) : Prop := B ≤ k ∧ k < w.heap.size
structure AilAt (w1 wr : World) (D Q M to : Nat) (S : Nat → Prop) (s : Dsk) (mem : Nat → Bk) (v vc : Value) (L : List (Nat × Nat × Bs)) (l : List (Nat × Bs)) : Prop where
  blk : Blk wr D (dcells Q M vc to s) 75
  map : MapAt wr M mem
  cache : CacheIn wr S (Since w1.heap.size wr) vc l
  taken : Taken wr v S L
  chg : Chg (fun k => k = D) w1 wr
def AilRel (w1 : World) (D Q M to : Nat) (S : Nat → Prop) (s : Dsk) (ad : Nat) (mem : Nat → Bk) (v : Value) (L : List (Nat × Nat × Bs)) (i : Value) (wr : World) : Prop :=
  ∃ k : Nat, k ≤ L.length ∧ i = .int .i64 (k : Int) ∧ ∃ vc, AilAt w1 wr D Q M to S s mem v vc L (others (s.cache.take k) ad)
/-- A turn that leaves the cache as it is. -/
theorem AilAt.step {w1 wr w' : World} {D Q M to : Nat} {S : Nat → Prop} {s : Dsk} {mem : Nat → Bk} {v vc : Value} {L : List (Nat × Nat × Bs)} {l : List (Nat × Bs)} (h : AilAt w1 wr D Q M to S s mem v vc L l) (hb : Below wr.heap.size wr w') : AilAt w1 w' D Q M to S s mem v vc L l :=
  ⟨h.blk.below hb h.blk.lt, h.map.kept (hb.block _ h.map.lt), h.cache.chg (Chg.of_below (F := fun _ => False) hb) (fun _ _ hf => hf.elim) (fun _ _ hf => hf.elim) (fun k hk => ⟨hk.1, Nat.lt_of_lt_of_le hk.2 hb.size⟩),
    h.taken.turned (Chg.of_below (F := fun _ => False) hb) (fun _ _ hf => hf.elim) (fun _ _ hf => hf.elim), h.chg.trans' (Chg.of_below hb)⟩
theorem dcells_put3 (Q M : Nat) (vc v' : Value) (to : Nat) (s : Dsk) : (dcells Q M vc to s).set 3 v' = dcells Q M v' to s := rfl
/-- One write more, put into the disk's cell. -/
theorem AilAt.put {w1 wr w5 : World} {D Q M to : Nat} {S : Nat → Prop} {s : Dsk} {mem : Nat → Bk} {v vc v' : Value} {L : List (Nat × Nat × Bs)} {l l' : List (Nat × Bs)} (h : AilAt w1 wr D Q M to S s mem v vc L l) (hS : ∀ k, S k → k < w1.heap.size)
    (hc : Chg (Rows100 wr (Since w1.heap.size wr)) wr w5) (hcc : CacheIn w5 S (Since w1.heap.size w5) v' l') : AilAt w1 (w5.setCell ⟨D, 3, none⟩ v') D Q M to S s mem v v' L l' := by
  have hnoD : ¬ Rows100 wr (Since w1.heap.size wr) D := fun ⟨_, cs, hb⟩ => absurd (hb.same h.blk) (by decide)
  have hb5 := h.blk.chg hc hnoD
  have hm5 := h.map.chg hc (fun ⟨_, cs, hb⟩ => h.map.noBlk hb)
  have ht5 := h.taken.round hc (D := D) (fun k hk => .inr hk.1.1) hS h.blk
  have hc1 : Chg (fun k => k = D) w5 (w5.setCell ⟨D, 3, none⟩ v') := chg1 3 v'
  have h75 : ∀ k (t : Nat) cs, k = D → Blk w5 k cs t → t = 75 := fun k t cs e hb => by subst e; exact hb.same hb5
  refine ⟨hb5.set 3 _, hm5.chg hc1 (fun e => by rw [e] at hm5; exact hm5.noBlk hb5), hcc.chg hc1 (fun k cs e hb => by have := h75 k _ cs e hb; omega) (fun k cs e hb => by have := h75 k _ cs e hb; omega) (fun k hk => ⟨hk.1, Nat.lt_of_lt_of_le hk.2 hc1.size⟩), ht5.round hc1 (D := D) (fun k hk => .inl hk) hS hb5, ?_⟩
  exact (h.chg.trans hc (fun i hi => .inr hi.1.1)).trans' hc1
theorem size100 : (Try.prog.info? 100).map (·.size) = some 2 := by kernel_rfl
theorem ex_ld100 {ρ : Operand → Value} {o : Oper} {x : Operand} {g ad gb : Nat} {w : World} (ho : o.op = .load 100 x) (hx : ρ x = .pointer (some ⟨g, 0, none⟩)) (hb : Blk w g (wcells ad gb) 100) :
    (execOp ρ o).run Try.prog w = .ok (.value (.agg (wcells ad gb).toArray)) w := by
  have hr := run_loadVar_row (P := Try.prog) w g 100 100 (wcells ad gb).toArray (0, 0) _ hb Try.underlying100 rfl (by rw [size100]; rfl)
  unfold execOp
  simp only [ho, hx, Instr.loadAt, Instr.sureAddr, Sem.run_bind, Sem.run_pure, Result.andThen_ok, hr]
end Go.Proofs.Ytneemllgimeacaa
