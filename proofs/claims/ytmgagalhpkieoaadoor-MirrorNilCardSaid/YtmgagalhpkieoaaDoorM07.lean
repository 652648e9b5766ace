/- What a fault does to an address. -/
import Derived.Test.YtmgagalhpkieoaaDoorM06
namespace Go.Proofs.YtmgagalhpkieoaaDoor
open Go.RowKit

/-- A cache whose row lies in R. -/
def CacheIn (w : World) (S R : Nat → Prop) (v : Value) (l : List (Nat × d_Bs)) : Prop :=
  ∃ L : List (Nat × Nat × d_Bs), L.map (fun x => (x.1, x.2.2)) = l ∧ Writes w S L ∧
    ((∃ sp, v = .slice sp 0 0 ∧ L = []) ∨ (w.ownsRow 0 130 2 v L.length (crow L) ∧ ∃ g, v.ownBlock = some g ∧ R g))
theorem CacheIn.at {w : World} {S R S' : Nat → Prop} {v : Value} {l : List (Nat × d_Bs)} (h : CacheIn w S R v l) (h1 : ∀ k, S k → S' k) (h2 : ∀ k, R k → S' k) : CacheAt w S' v l := by
  obtain ⟨L, e1, e2, e3⟩ := h
  refine ⟨L, e1, e2.mono h1, ?_⟩
  rcases e3 with h3 | ⟨h3, g, h4, h5⟩
  · exact .inl h3
  · exact .inr ⟨h3, g, h4, h2 _ h5⟩
theorem CacheIn.form {S R : Nat → Prop} {w : World} {v : Value} {l : List (Nat × d_Bs)} (h : CacheIn w S R v l) : ∃ sp cap, v = .slice sp l.length cap ∧ l.length ≤ cap ∧ cap ≤ maxLen := (h.at (S' := fun _ => True) (fun _ _ => trivial) (fun _ _ => trivial)).form
/-- .. in a later world: what it reaches has not turned. -/
theorem CacheIn.chg {F S R R' : Nat → Prop} {w w' : World} {v : Value} {l : List (Nat × d_Bs)} (h : CacheIn w S R v l) (hc : Chg F w w') (h5 : ∀ k cs, F k → ¬ Blk w k cs 5) (h100 : ∀ k cs, F k → ¬ Blk w k cs 130) (hR : ∀ k, R k → R' k) : CacheIn w' S R' v l := by
  obtain ⟨L, e1, e2, e3⟩ := h
  refine ⟨L, e1, e2.turned hc h5, ?_⟩
  rcases e3 with h3 | ⟨h3, g, h4, h6⟩
  · exact .inl h3
  · refine .inr ⟨owns_chg h3 hc (fun g' hg' hf => ?_), g, h4, hR _ h6⟩
    obtain ⟨cs, hb⟩ := owns_blk h3 hg'
    exact h100 _ _ hf hb
theorem app_cacheR {w : World} {S R : Nat → Prop} {v : Value} {l : List (Nat × d_Bs)} (h : CacheIn w S R v l) {ad gb : Nat} {b : d_Bs} (had : ad < 65536) (hb : b.length = 512) (hblk : Blk w gb (b.map V8) 5) (hgS : S gb) {adr : Addr} {c : Nat}
    (hnews : ∀ j u, (wcells ad gb)[j]? = some u → w.cell? (adr.add j) = some u) (hl : l.length < 1000000) (ty : TypeId) :
    ∃ v' w', (Builtin.append_ #[109, 109] ty #[v, .slice (some adr) 1 c]).run Tryd.prog w = .ok v' w' ∧ (∀ R' : Nat → Prop, (∀ k, R k → R' k) → (w.heap.size < w'.heap.size → R' w.heap.size) → CacheIn w' S R' v' (l ++ [(ad, b)])) ∧ Chg (Rows100 w R) w w' := by
  obtain ⟨i, hi, hz0, hz1, hz2⟩ : ∃ i, Tryd.prog.info? 130 = some i ∧ i.zero = some (.agg #[.int .u16 0, .slice none 0 0]) ∧ i.size = 2 ∧ i.bytes = 32 := by
    have := infoW
    cases hq : Tryd.prog.info? 130 with
    | none => rw [hq] at this; simp at this
    | some i =>
      rw [hq] at this
      simp at this
      exact ⟨i, rfl, this.1, this.2.1, this.2.2⟩
  obtain ⟨L, rfl, hw, h3⟩ := h
  rw [List.length_map] at hl
  have fin : ∀ (v' : Value) (w' : World), w'.ownsRow 0 130 2 v' (L.length + 1) (crow L ++ wcells ad gb) → Chg (Rows100 w R) w w' → (∀ g, v'.ownBlock = some g → R g ∨ g = w.heap.size) →
      ∀ R' : Nat → Prop, (∀ k, R k → R' k) → (w.heap.size < w'.heap.size → R' w.heap.size) → CacheIn w' S R' v' (L.map (fun x => (x.1, x.2.2)) ++ [(ad, b)]) := by
    intro v' w' ho hc hwh R' h1 h4
    refine ⟨L ++ [(ad, gb, b)], by simp, ?_, .inr ⟨?_, ?_⟩⟩
    · have hbyte : ∀ k cs, Rows100 w R k → ¬ Blk w k cs 5 := fun k cs ⟨_, cs', hb'⟩ hb'' => by
        have e := hb'.same hb''
        exact absurd e (by decide)
      intro x hx
      rcases List.mem_append.1 hx with hx | hx
      · exact (hw.turned hc hbyte) x hx
      · obtain rfl : x = (ad, gb, b) := by simpa using hx
        exact ⟨had, hb, hblk.chg hc (fun hf => hbyte _ _ hf hblk), hgS⟩
    · rw [List.length_append, crow_snoc]
      exact ho
    · obtain ⟨g, hg, hgl⟩ := owns_form ho (by omega)
      refine ⟨g, hg, ?_⟩
      rcases hwh g hg with h5 | rfl
      · exact h1 _ h5
      · exact h4 hgl
  rcases h3 with ⟨sp, rfl, rfl⟩ | ⟨ho, g, hg, hSg⟩
  · cases sp with
    | none =>
      obtain ⟨v', w', hr, h2, h3, h4, h5⟩ := run_append_own_at (P := Tryd.prog) w 0 109 ty 130 i _ 2 32 Tryd.underlying109 hi hz0 hz1 hz2 rfl (by decide) (.slice none 0 0) 0 [] (World.ownsRow_nil _ _ _ _) adr 1 c (wcells ad gb) rfl hnews (one_wcells _ _) (by unfold maxLen; omega) (by omega) (Nat.zero_le _)
      have hc : Chg (Rows100 w R) w w' := (Chg.refl _ w).grown h3 (fun k hk => by cases hk)
      refine ⟨v', w', hr, fin v' w' h2 hc (fun g hg => ?_), hc⟩
      rcases h5 with h5 | h5
      · rw [h5] at hg; cases hg
      · rw [h5] at hg; cases hg; exact .inr rfl
    | some ad0 =>
      have hr := run_append_grow (P := Tryd.prog) w 109 ty 130 i _ Tryd.underlying109 hi hz0 ad0 0 0 [] (by simp) (fun j v hv => by simp at hv) adr 1 c (wcells ad gb) (by rw [hz1]; rfl) hnews (by omega) (by omega) (growslice_fits (by omega) (by rw [hz2]; omega))
      have hc : Chg (Rows100 w R) w (w.drew.alloc (.cells (#[] ++ (wcells ad gb).toArray ++ Builtin.zeroCells (Value.agg #[.int .u16 0, .slice none 0 0]).cells (grownCap w 1 0 130 - 1)) 130)) := ((Chg.refl _ w).drew).alloc _
      refine ⟨_, _, hr, fin _ _ ?_ hc (fun g hg => by simp [Value.ownBlock] at hg; exact .inr hg.symm), hc⟩
      have hge := grownCap_ge w 1 0 130
      refine ⟨rfl, .inr ⟨w.heap.size, _, _, rfl, Nat.zero_le _, heap_alloc_new w.drew _, hge, grownCap_le_maxLen w 1 0 130 (by unfold maxLen; omega), ?_, ?_⟩⟩
      · simp only [Array.size_append, List.size_toArray, size_zeroCells]
        simp [Value.cells, wcells]
        omega
      · simp [crow, wcells]
  · obtain ⟨v', w', hr, h2, h3, h4, h5⟩ := run_append_own_at (P := Tryd.prog) w 0 109 ty 130 i _ 2 32 Tryd.underlying109 hi hz0 hz1 hz2 rfl (by decide) v L.length (crow L) ho adr 1 c (wcells ad gb) rfl hnews (one_wcells _ _) (by unfold maxLen; omega) (by omega) (Nat.zero_le _)
    have hc : Chg (Rows100 w R) w w' := (Chg.refl _ w).grown h3 (fun k hk => by rw [hg] at hk; cases hk; exact .inl ⟨hSg, owns_blk ho hg⟩)
    refine ⟨v', w', hr, fin v' w' h2 hc (fun g' hg' => ?_), hc⟩
    rcases h5 with h5 | h5
    · rw [h5, hg] at hg'; cases hg'; exact .inl hSg
    · rw [h5] at hg'; cases hg'; exact .inr rfl

def others (l : List (Nat × d_Bs)) (a : Nat) : List (Nat × d_Bs) := l.filter (fun x => x.1 != a)
theorem others_snoc (l : List (Nat × d_Bs)) (x : Nat × d_Bs) (a : Nat) : others (l ++ [x]) a = if x.1 = a then others l a else others l a ++ [x] := by
  unfold others
  rw [List.filter_append]
  by_cases h : x.1 = a
  · rw [if_pos h]; simp [h]
  · rw [if_neg h]; simp [h]
def ailed (s : Dsk) (a n : Nat) (ft : Bk → Bk) : Int × Dsk := if a < s.n ∧ n = 512 then (0, { s with mem := Upd s.mem a (ft (s.mem a)), cache := others s.cache a }) else (1, s)
theorem Taken.round {F S : Nat → Prop} {B D : Nat} {w w' : World} {v : Value} {L : List (Nat × Nat × d_Bs)} {cs : List Value} (h : Taken w v S L) (hc : Chg F w w') (hF : ∀ k, F k → k = D ∨ B ≤ k) (hS : ∀ k, S k → k < B) (hD : Blk w D cs 111) : Taken w' v S L := by
  refine ⟨fun x hx => ?_, ?_⟩
  · obtain ⟨h1, h2, h3, h4⟩ := h.1 x hx
    refine ⟨h1, h2, h3.chg hc (fun hf => ?_), h4⟩
    rcases hF _ hf with e | e
    · rw [e] at h3; exact absurd (h3.same hD) (by decide)
    · have := hS _ h4; omega
  · rcases h.2 with h3 | ⟨h3, g, h4, h5⟩
    · exact .inl h3
    · refine .inr ⟨owns_chg h3 hc (fun g' hg' hf => ?_), g, h4, h5⟩
      have e1 : g' = g := by rw [h4] at hg'; cases hg'; rfl
      subst e1
      rcases hF _ hf with e | e
      · obtain ⟨cs', hb⟩ := owns_blk h3 h4
        rw [e] at hb
        exact absurd (hb.same hD) (by decide)
      · have := hS _ h5; omega
/-- Rows made since the world of size B. -/
def Since (B : Nat) (w : World) (k : Nat) : Prop := B ≤ k ∧ k < w.heap.size
structure AilAt (w1 wr : World) (D Q M to : Nat) (S : Nat → Prop) (s : Dsk) (mem : Nat → Bk) (v vc : Value) (L : List (Nat × Nat × d_Bs)) (l : List (Nat × d_Bs)) : Prop where
  blk : Blk wr D (dcells Q M vc to s) 111
  map : MapAt wr M mem
  cache : CacheIn wr S (Since w1.heap.size wr) vc l
  taken : Taken wr v S L
  chg : Chg (fun k => k = D) w1 wr
def AilRel (w1 : World) (D Q M to : Nat) (S : Nat → Prop) (s : Dsk) (ad : Nat) (mem : Nat → Bk) (v : Value) (L : List (Nat × Nat × d_Bs)) (i : Value) (wr : World) : Prop :=
  ∃ k : Nat, k ≤ L.length ∧ i = .int .i64 (k : Int) ∧ ∃ vc, AilAt w1 wr D Q M to S s mem v vc L (others (s.cache.take k) ad)
/-- A turn that leaves the cache as it is. -/
theorem AilAt.step {w1 wr w' : World} {D Q M to : Nat} {S : Nat → Prop} {s : Dsk} {mem : Nat → Bk} {v vc : Value} {L : List (Nat × Nat × d_Bs)} {l : List (Nat × d_Bs)} (h : AilAt w1 wr D Q M to S s mem v vc L l) (hb : Below wr.heap.size wr w') : AilAt w1 w' D Q M to S s mem v vc L l :=
  ⟨h.blk.below hb h.blk.lt, h.map.kept (hb.block _ h.map.lt), h.cache.chg (Chg.of_below (F := fun _ => False) hb) (fun _ _ hf => hf.elim) (fun _ _ hf => hf.elim) (fun k hk => ⟨hk.1, Nat.lt_of_lt_of_le hk.2 hb.size⟩),
    h.taken.turned (Chg.of_below (F := fun _ => False) hb) (fun _ _ hf => hf.elim) (fun _ _ hf => hf.elim), h.chg.trans' (Chg.of_below hb)⟩
theorem dcells_put3 (Q M : Nat) (vc v' : Value) (to : Nat) (s : Dsk) : (dcells Q M vc to s).set 3 v' = dcells Q M v' to s := rfl
/-- One write more, put into the disk's cell. -/
theorem AilAt.put {w1 wr w5 : World} {D Q M to : Nat} {S : Nat → Prop} {s : Dsk} {mem : Nat → Bk} {v vc v' : Value} {L : List (Nat × Nat × d_Bs)} {l l' : List (Nat × d_Bs)} (h : AilAt w1 wr D Q M to S s mem v vc L l) (hS : ∀ k, S k → k < w1.heap.size)
    (hc : Chg (Rows100 wr (Since w1.heap.size wr)) wr w5) (hcc : CacheIn w5 S (Since w1.heap.size w5) v' l') : AilAt w1 (w5.setCell ⟨D, 3, none⟩ v') D Q M to S s mem v v' L l' := by
  have hnoD : ¬ Rows100 wr (Since w1.heap.size wr) D := fun ⟨_, cs, hb⟩ => absurd (hb.same h.blk) (by decide)
  have hb5 := h.blk.chg hc hnoD
  have hm5 := h.map.chg hc (fun ⟨_, cs, hb⟩ => h.map.noBlk hb)
  have ht5 := h.taken.round hc (D := D) (fun k hk => .inr hk.1.1) hS h.blk
  have hc1 : Chg (fun k => k = D) w5 (w5.setCell ⟨D, 3, none⟩ v') := d_chg1 3 v'
  have h75 : ∀ k (t : Nat) cs, k = D → Blk w5 k cs t → t = 111 := fun k t cs e hb => by subst e; exact hb.same hb5
  refine ⟨hb5.set 3 _, hm5.chg hc1 (fun e => by rw [e] at hm5; exact hm5.noBlk hb5), hcc.chg hc1 (fun k cs e hb => by have := h75 k _ cs e hb; omega) (fun k cs e hb => by have := h75 k _ cs e hb; omega) (fun k hk => ⟨hk.1, Nat.lt_of_lt_of_le hk.2 hc1.size⟩), ht5.round hc1 (D := D) (fun k hk => .inl hk) hS hb5, ?_⟩
  exact (h.chg.trans hc (fun i hi => .inr hi.1.1)).trans' hc1
theorem size100 : (Tryd.prog.info? 130).map (·.size) = some 2 := by kernel_rfl
theorem ex_ld100 {ρ : Operand → Value} {o : Oper} {x : Operand} {g ad gb : Nat} {w : World} (ho : o.op = .load 130 x) (hx : ρ x = .pointer (some ⟨g, 0, none⟩)) (hb : Blk w g (wcells ad gb) 130) :
    (execOp ρ o).run Tryd.prog w = .ok (.value (.agg (wcells ad gb).toArray)) w := by
  have hr := run_loadVar_row (P := Tryd.prog) w g 130 130 (wcells ad gb).toArray (0, 0) _ hb Tryd.underlying130 rfl (by rw [size100]; rfl)
  unfold execOp
  simp only [ho, hx, Instr.loadAt, Instr.sureAddr, Sem.run_bind, Sem.run_pure, Result.andThen_ok, hr]
end Go.Proofs.YtmgagalhpkieoaaDoor
/- ail, walked. -/
namespace Go.Proofs.YtmgagalhpkieoaaDoor
open Go.RowKit

theorem drain_in (D Q : Nat) (S : Nat → Prop) (s : Dsk) (w : World) (h : DkAt w D Q S s) : Calls Tryd.prog 57 #[.pointer (some ⟨D, 0, none⟩)] w fun e w' => ∃ v L, e = .returned v ∧ L.map (fun x => (x.1, x.2.2)) = s.cache ∧ Taken w' v S L ∧ (∃ M sp to, DkIn w' D Q M (.slice sp 0 0) to S { s with cache := [] }) ∧ Chg S w w' := by
  obtain ⟨M, v, to, h⟩ := h
  obtain ⟨c0, c1, c2, c3, c4, c5, c6, c7⟩ := h.c
  have f3 := h.blk.free 3
  obtain ⟨sp, cap, rfl, hle, hm⟩ := h.cache.form
  have H := Lib.hid h
  obtain ⟨N, hN⟩ : ∃ N, s.cache.length = N := ⟨_, rfl⟩
  have HN := Lib.hid hN
  rw [hN] at c3 hle
  clear h c0 c1 c2 c4 c5 c6 c7 hN
  go_enter Tryd.func57, Tryd.ntmps57
  go_wp2
  go_ret
  have h := H.out
  rw [HN.out] at h
  obtain ⟨k1, k2, k3⟩ := h.keep (d_chg1 3 (.slice sp 0 0))
  obtain ⟨L, e1, e2, e3⟩ := k2
  exact ⟨_, L, rfl, e1, ⟨e2, e3⟩, ⟨M, sp, to, ⟨h.blk.set 3 _, k1, ⟨[], rfl, fun x hx => by simp at hx, .inl ⟨sp, rfl, rfl⟩⟩, h.sd, h.sm, h.sq, k3, h.tlt, h.teq, h.nlt⟩⟩, chgD h.sd 3 _⟩
set_option maxRecDepth 100000 in
set_option maxHeartbeats 4000000 in
theorem ail_any (D Q : Nat) (S : Nat → Prop) (s : Dsk) (ad n : Nat) (f : Nat) (caps : Array Value) (ft : Bk → Bk) (Kp : World → Prop) (W : World) (ha : ad < 65536) (h : DkAt W D Q S s) (hq : Q < W.heap.size) (hcn : s.cache.length < 1000000)
    (hft : ∀ k, k.b.length = 512 → (ft k).b.length = 512) (hcf : ∀ (args : Array Value) (w : World), (callFunc f args).run Tryd.prog w = .ok (.enter f args) w) (hKp : ∀ w', Below W.heap.size W w' → Kp w')
    (hcall : ∀ (B : Nat) (k : Bk) (w : World), n = 512 → Kp w → k.b.length = 512 → Blk w B (bcells k) 97 → Calls Tryd.prog f (#[.pointer (some ⟨B, 0, none⟩)] ++ caps) w fun e w' => e = .returned (.tuple #[]) ∧ Blk w' B (bcells (ft k)) 97 ∧ Chg (fun i => i = B) w w') :
    Calls Tryd.prog 36 #[.pointer (some ⟨D, 0, none⟩), .int .u16 (ad : Int), .int .i64 (n : Int), fval f caps] W fun e w' => e = .returned (.int .i64 (ailed s ad n ft).1) ∧ DkAt w' D Q (Ext S W w') (ailed s ad n ft).2 ∧ Chg S W w' := by
  have H := Lib.hid h
  have HCN := Lib.hid hcn
  have HFT := Lib.hid hft
  have HKP := Lib.hid hKp
  have HCALL := Lib.hid hcall
  obtain ⟨M, v, to, hin⟩ := h
  have c0 := hin.c.1
  have c2 := hin.c.2.2.1
  have hk : (s.mem ad).b.length = 512 := by obtain ⟨_, _, _, hh⟩ := hin.map; exact hh ad
  have HK := Lib.hid hk
  have HIN := Lib.hid hin
  clear hin hcn hft hKp hcall hk
  unfold ailed fval
  by_cases hn : ad < s.n
  · have hde : decide (ad < s.n) = true := by simpa using hn
    by_cases h5 : n = 512
    · rw [if_pos ⟨hn, h5⟩]
      subst h5
      clear hn
      go_enter Tryd.func36, Tryd.ntmps36
      go_wp2_with (first | (go_at_call 38; refine (d_has_any D Q S s ad ha _ H.out).mono ?_; rw [hde]; rintro e w' ⟨rfl, rfl⟩) | (at_lookup; refine wpL_look rfl _ _ rfl rfl rfl HIN.out.map ha ?_) | (refine wpL_alloc89 rfl rfl ?_; intro w1 hb1 hw1; have HB1 := Lib.hid hb1; have HW1 := Lib.hid hw1; clear hb1 hw1) | (refine wpL_store89 rfl _ _ rfl rfl rfl HK.out zeros_length HB1.out ?_; intro w2 hb2 hw2; have HB2 := Lib.hid hb2; have HW2 := Lib.hid (HW1.out.trans (hw2.below (B := W.heap.size) (fun k e => by omega) HW1.out.size)); clear hb2 hw2) | fail)
      refine (HCALL.out W.heap.size (s.mem ad) w2 trivial (HKP.out _ HW2.out) HK.out HB2.out).mono ?_
      rintro e w3 ⟨rfl, hb3, hw3⟩
      have hW3 : Below W.heap.size W w3 := HW2.out.trans (hw3.below (fun k e => by omega) HW2.out.size)
      have HB3 := Lib.hid hb3
      have HW3 := Lib.hid hW3
      clear hb3 hw3 hW3 HB2 HW2 HB1 HW1 HCALL HKP
      go_wp2_with fail
      have hd3 : Blk w3 D (dcells Q M v to s) 111 := HIN.out.blk.below HW3.out HIN.out.blk.lt
      have hm3 : MapAt w3 M s.mem := HIN.out.map.kept (HW3.out.block _ HIN.out.map.lt)
      obtain ⟨W4, hrun, hmap4, hgr⟩ := (MapAt.kept (w := w3) (w' := w3.drew) hm3 rfl).put ha (k := ft (s.mem ad)) (HFT.out _ HK.out)
      have hc4 : Chg (fun i => i = M) w3 W4 := (Chg.refl _ w3).drew.trans (grown_chg hgr) (fun i hi => .inl hi)
      have hnoM : ∀ (t : Nat) j cs, Blk w3 j cs t → ¬ j = M := fun t j cs hb e => by subst e; exact hm3.noBlk hb
      have hd4 := hd3.chg hc4 (hnoM _ _ _ hd3)
      have hb4 := HB3.out.chg hc4 (hnoM _ _ _ HB3.out)
      refine wp_region_sched (.take 0 (.take 1 (.take 2 (.take 3 (.take 4 (.take 5 (.step 6 (.nil)))))))) (by kernel_rfl) (by kernel_rfl) (fun d _ _ _ _ h => by cases d <;> exact h)
        (fun Y => Y.cell? ⟨D, 2, none⟩ = some (.map (some M)) ∧ Blk Y W.heap.size (bcells (ft (s.mem ad))) 97) ⟨hd3.cell rfl, HB3.out⟩ ?_
      refine wpG_take _ (.pointer (some ⟨D, 0, none⟩)) rfl (by rfl) (fun Y hY => by rfl) ?_
      (try simp only [Act.put, List.setIfInBounds_toArray, List.set_cons_zero, List.set_cons_succ])
      refine wpG_take _ (.pointer (some ⟨D, 0, none⟩)) rfl (by rfl) (fun Y hY => ex_nc rfl rfl) ?_
      (try simp only [Act.put, List.setIfInBounds_toArray, List.set_cons_zero, List.set_cons_succ])
      refine wpG_take _ (.pointer (some ⟨D, 2, none⟩)) rfl (by rfl) (fun Y hY => ex_fa (by omega) rfl rfl) ?_
      (try simp only [Act.put, List.setIfInBounds_toArray, List.set_cons_zero, List.set_cons_succ])
      refine wpG_take _ (.map (some M)) rfl (by rfl) (fun Y hY => ex_ld72 rfl rfl hY.1) ?_
      (try simp only [Act.put, List.setIfInBounds_toArray, List.set_cons_zero, List.set_cons_succ])
      refine wpG_take _ (.int .u16 (ad : Int)) rfl (by rfl) (fun Y hY => by rfl) ?_
      (try simp only [Act.put, List.setIfInBounds_toArray, List.set_cons_zero, List.set_cons_succ])
      refine wpG_take _ (BV (ft (s.mem ad))) rfl (by rfl) (fun Y hY => ex_load89 rfl rfl (HFT.out _ HK.out) hY.2) ?_
      (try simp only [Act.put, List.setIfInBounds_toArray, List.set_cons_zero, List.set_cons_succ])
      refine wpG_st _ rfl (by rfl) W4 (ex_put rfl rfl rfl rfl hrun) _ ⟨hd4.cell rfl, hb4⟩ ⟨hd4.cell rfl, hb4⟩ (fun _ h => h) ?_
      refine wpG_nil ?_
      have hin4 : DkIn W4 D Q M v to S { s with mem := Upd s.mem ad (ft (s.mem ad)) } := by
        have hca := (HIN.out.cache.chg (Chg.of_below (F := fun _ => False) HW3.out) (fun _ _ h => h)).turned hc4 (fun k cs e hb => hnoM _ _ _ hb e) (fun k cs e hb => hnoM 130 k cs.toList (by unfold Blk; simpa using hb) e)
        exact ⟨hd4, hmap4, hca, HIN.out.sd, HIN.out.sm, HIN.out.sq, fun k hk => Nat.lt_of_lt_of_le (HIN.out.lt k hk) (Nat.le_trans HW3.out.size hc4.size), HIN.out.tlt, HIN.out.teq, HIN.out.nlt⟩
      have hC4 : Chg S W W4 := (Chg.of_below HW3.out).trans hc4 (fun i e => .inl (by rw [e]; exact HIN.out.sm))
      have HIN4 := Lib.hid hin4
      have HC4 := Lib.hid hC4
      clear hin4 hC4 hd3 hm3 hc4 hd4 hb4 hnoM hrun hmap4 hgr
      go_wp2_with (first | (go_at_call 57; refine (drain_in D Q S _ _ ⟨M, v, to, HIN4.out⟩).mono ?_; rintro e w1 ⟨v, L, rfl, hL, hT, ⟨M, sp0, to, hd1⟩, hw1⟩; obtain ⟨sp, cap, hv, hcap⟩ := hT.form; subst hv; have HL := Lib.hid hL; have HT := Lib.hid hT; have HD1 := Lib.hid hd1; have HW1 := Lib.hid hw1; clear hL hT hd1 hw1) | fail)
      have hlen : L.length = s.cache.length := by have := HL.out; rw [← this, List.length_map]
      have hcnL : L.length < 1000000 := by rw [hlen]; exact HCN.out
      obtain ⟨N, hN⟩ : ∃ N, L.length = N := ⟨_, rfl⟩
      have HN := Lib.hid hN
      rw [hN] at hcnL hcap ⊢
      clear hlen hN
      obtain ⟨mem, hmem⟩ : ∃ mem, Upd s.mem ad (ft (s.mem ad)) = mem := ⟨_, rfl⟩
      have HMEM := Lib.hid hmem
      clear hmem
      have HR := Lib.hid (show AilRel w1 D Q M to S s ad mem (.slice sp N cap) L (.int .i64 0) w1 from ⟨0, Nat.zero_le _, rfl, .slice sp0 0 0, ⟨HD1.out.blk, by rw [← HMEM.out]; exact HD1.out.map, ⟨[], rfl, fun x hx => by simp at hx, .inl ⟨sp0, rfl, rfl⟩⟩, by rw [← HN.out]; exact HT.out, Chg.refl _ _⟩⟩)
      have hSlt : ∀ k, S k → k < w1.heap.size := HD1.out.lt
      have HSLT := Lib.hid hSlt
      clear hSlt HIN c0 c2 HB3 HW3 HFT HK H
      go_loopw [46] (fun i wr => AilRel w1 D Q M to S s ad mem (.slice sp N cap) L i wr) (fun i _ => N - (intOf i).toNat)
      case atStart => exact HR.out
      case round =>
        clear HR HT
        obtain ⟨k, hk, rfl, vc, hA⟩ := hrel
        by_cases hlt : k < N
        · have hkL : k < L.length := by have := HN.out; omega
          obtain ⟨x, hx⟩ : ∃ x, L[k]? = some x := ⟨_, List.getElem?_eq_getElem hkL⟩
          have hT2 : wr.ownsRow 0 130 2 (.slice sp N cap) L.length (crow L) ∧ ∃ g, (Value.slice sp N cap).ownBlock = some g ∧ S g := by
            rcases hA.taken.2 with ⟨_, _, h⟩ | h
            · subst h; simp at hkL
            · exact h
          obtain ⟨e4, g, e5, e6⟩ := hT2
          obtain ⟨rfl, d0, d1⟩ := row_at e4 e5 hx
          obtain ⟨hx1, hx2, hx3, hx4⟩ := hA.taken.1 x (List.mem_of_getElem? hx)
          have hcx : s.cache[k]? = some (x.1, x.2.2) := by have := HL.out; rw [← this, List.getElem?_map, hx]; rfl
          obtain ⟨a, gb, b⟩ := x
          simp only at d0 d1 hx1 hx2 hx3 hx4 hcx
          have htk : s.cache.take (k + 1) = s.cache.take k ++ [(a, b)] := by
            obtain ⟨h2, h3⟩ := List.getElem?_eq_some_iff.1 hcx
            rw [List.take_succ_eq_append_getElem h2, h3]
          have HTK := Lib.hid htk
          have HA := Lib.hid hA
          have HX2 := Lib.hid hx2
          have HX3 := Lib.hid hx3
          have HX4 := Lib.hid hx4
          have hlk : (others (s.cache.take k) ad).length < 1000000 := by
            have h1 := List.length_filter_le (fun x : Nat × d_Bs => x.1 != ad) (s.cache.take k)
            have h2 := HCN.out
            unfold others
            simp at h1
            omega
          have HLK := Lib.hid hlk
          clear hcx hA hx e4 e5 e6 hkL hx3 hx2 hx4 htk hlk
          have hwk := IntWalk.i64_in ((k : Int) + 1) (by omega)
          by_cases hxa : a = ad
          · have ht : ((a : Int) != (ad : Int)) = false := by simp [hxa]
            have HXA := Lib.hid hxa
            clear hxa
            go_wp2_with fail
            go_roundw
            case rel =>
              refine ⟨k + 1, by have := HN.out; omega, rfl, vc, ?_⟩
              rw [HTK.out, others_snoc, if_pos HXA.out]
              exact HA.out.step ((Below.refl _ _).alloc (Nat.le_refl _) _)
            case measure => simp [intOf]; omega
          · have ht : ((a : Int) != (ad : Int)) = true := by simp; omega
            have HXA := Lib.hid hxa
            clear hxa
            go_wp2_with fail
            have hrow : Blk (wr.alloc (.cells #[Value.int .u16 (a : Int), Value.slice (some ⟨gb, 0, none⟩) 512 512] 130)) wr.heap.size (wcells a gb) 130 := Blk.new wr (wcells a gb) 130
            have hAx := HA.out.step ((Below.refl wr.heap.size wr).alloc (Nat.le_refl _) (.cells #[Value.int .u16 (a : Int), Value.slice (some ⟨gb, 0, none⟩) 512 512] 130))
            have hbx : Blk (wr.alloc (.cells #[Value.int .u16 (a : Int), Value.slice (some ⟨gb, 0, none⟩) 512 512] 130)) gb (b.map V8) 5 := HX3.out.alloc _
            generalize (wr.alloc (.cells #[Value.int .u16 (a : Int), Value.slice (some ⟨gb, 0, none⟩) 512 512] 130)) = X at hrow hAx hbx ⊢
            obtain ⟨BX, hBX⟩ : ∃ BX, wr.heap.size = BX := ⟨_, rfl⟩
            rw [hBX] at hrow ⊢
            have HAX := Lib.hid hAx
            have HROW := Lib.hid hrow
            have HBX := Lib.hid hbx
            clear hrow hAx hbx hBX d0 d1
            have hF1 : ∀ o : Obj, AilAt w1 (X.drew.alloc o) D Q M to S s mem (.slice (some ⟨g, 0, none⟩) N cap) vc L (others (s.cache.take k) ad) := fun o => HAX.out.step ((Below.refl X.heap.size X).drew.alloc (Nat.le_refl _) o)
            have hld : ∀ Y : World, Y.heap = X.heap → Y.cell? ⟨D, 3, none⟩ = some vc := fun Y hY => Blk.cell (w := Y) (cs := dcells Q M vc to s) (t := 111) (by unfold Blk; rw [hY]; exact HAX.out.blk) rfl
            have hld2 : ∀ o : Obj, (X.drew.alloc o).cell? ⟨D, 3, none⟩ = some vc := fun o => Blk.cell (cs := dcells Q M vc to s) (t := 111) (Blk.alloc (w := X.drew) HAX.out.blk o) rfl
            refine wp_region_sched (.take 0 (.take 1 (.take 2 (.take 3 (.fork 4 (.step 5 (.step 6 (.step 7 (.take 8 (.take 9 (.step 10 (.nil))))))) 5 (.fork 4 (.step 6 (.step 7 (.take 8 (.take 9 (.step 10 (.nil)))))) 6 (.step 4 (.step 7 (.take 8 (.take 9 (.step 10 (.nil)))))))))))) (by kernel_rfl) (by kernel_rfl) (fun d _ _ _ _ h => by cases d <;> exact h) (fun _ => True) trivial ?_
            refine wpG_take _ (.pointer (some ⟨D, 0, none⟩)) rfl (by rfl) (fun Y hY => by rfl) ?_
            (try simp only [Act.put, List.setIfInBounds_toArray, List.set_cons_zero, List.set_cons_succ])
            refine wpG_take _ (.pointer (some ⟨D, 0, none⟩)) rfl (by rfl) (fun Y hY => by rfl) ?_
            (try simp only [Act.put, List.setIfInBounds_toArray, List.set_cons_zero, List.set_cons_succ])
            refine wpG_take _ (.pointer (some ⟨D, 0, none⟩)) rfl (by rfl) (fun Y hY => ex_nc rfl rfl) ?_
            (try simp only [Act.put, List.setIfInBounds_toArray, List.set_cons_zero, List.set_cons_succ])
            refine wpG_take _ (.pointer (some ⟨D, 3, none⟩)) rfl (by rfl) (fun Y hY => ex_fa (by omega) rfl rfl) ?_
            (try simp only [Act.put, List.setIfInBounds_toArray, List.set_cons_zero, List.set_cons_succ])
            refine wpG_fork (d_wpG_mk _ rfl (by rfl) vc X.drew (d_ex_ld rfl rfl (hld _ rfl)) (fun _ => True) trivial (fun _ h => h) ?_) (d_wpG_mk _ rfl (by rfl) (.agg (wcells a gb).toArray) X.drew (ex_ld100 rfl rfl HROW.out) (fun _ => True) trivial (fun _ h => h) ?_)
            (try simp only [Act.put, List.setIfInBounds_toArray, List.set_cons_zero, List.set_cons_succ])
            refine d_wpG_mk _ rfl (by rfl) (.agg (wcells a gb).toArray) X.drew (ex_ld100 rfl rfl HROW.out) (fun _ => True) trivial (fun _ h => h) ?_
            (try simp only [Act.put, List.setIfInBounds_toArray, List.set_cons_zero, List.set_cons_succ])
            refine d_wpG_mk _ rfl (by rfl) (.slice (some ⟨X.heap.size, 0, none⟩) 1 1) (X.drew.alloc (.cells (wcells a gb).toArray 130)) (ex_one rfl rfl) (fun _ => True) trivial (fun _ h => h) ?_
            (try simp only [Act.put, List.setIfInBounds_toArray, List.set_cons_zero, List.set_cons_succ])
            rotate_left
            (try simp only [Act.put, List.setIfInBounds_toArray, List.set_cons_zero, List.set_cons_succ])
            refine wpG_fork (d_wpG_mk _ rfl (by rfl) vc X.drew (d_ex_ld rfl rfl (hld _ rfl)) (fun _ => True) trivial (fun _ h => h) ?_) (d_wpG_mk _ rfl (by rfl) (.slice (some ⟨X.heap.size, 0, none⟩) 1 1) (X.drew.alloc (.cells (wcells a gb).toArray 130)) (ex_one rfl rfl) (fun _ => True) trivial (fun _ h => h) ?_)
            (try simp only [Act.put, List.setIfInBounds_toArray, List.set_cons_zero, List.set_cons_succ])
            refine d_wpG_mk _ rfl (by rfl) (.slice (some ⟨X.heap.size, 0, none⟩) 1 1) (X.drew.alloc (.cells (wcells a gb).toArray 130)) (ex_one rfl rfl) (fun _ => True) trivial (fun _ h => h) ?_
            (try simp only [Act.put, List.setIfInBounds_toArray, List.set_cons_zero, List.set_cons_succ])
            rotate_left
            (try simp only [Act.put, List.setIfInBounds_toArray, List.set_cons_zero, List.set_cons_succ])
            refine d_wpG_mk _ rfl (by rfl) vc (X.drew.alloc (.cells (wcells a gb).toArray 130)) (d_ex_ld rfl rfl (hld2 _)) (fun _ => True) trivial (fun _ h => h) ?_
            (try simp only [Act.put, List.setIfInBounds_toArray, List.set_cons_zero, List.set_cons_succ])
            all_goals
              have hA5 := hF1 (.cells (wcells a gb).toArray 130)
              have hb5 : Blk (X.drew.alloc (.cells (wcells a gb).toArray 130)) gb (b.map V8) 5 := Blk.alloc (w := X.drew) HBX.out _
              obtain ⟨v', w5, hr, hcc5, hc5⟩ := app_cacheR hA5.cache hx1 HX2.out hb5 HX4.out (cells_two X.drew a gb) HLK.out 109
              have hcin : CacheIn w5 S (Since w1.heap.size w5) v' (others (s.cache.take k) ad ++ [(a, b)]) := hcc5 _ (fun j hj => ⟨hj.1, Nat.lt_of_lt_of_le hj.2 hc5.size⟩) (fun hlt5 => ⟨hA5.chg.size, hlt5⟩)
              have hA6 := hA5.put HSLT.out hc5 hcin
              refine d_wpG_mk _ rfl (by rfl) v' w5 (ex_app rfl rfl rfl hr) (fun _ => True) trivial (fun _ h => h) ?_
              (try simp only [Act.put, List.setIfInBounds_toArray, List.set_cons_zero, List.set_cons_succ])
              refine wpG_take _ (.pointer (some ⟨D, 0, none⟩)) rfl (by rfl) (fun Y hY => ex_nc rfl rfl) ?_
              (try simp only [Act.put, List.setIfInBounds_toArray, List.set_cons_zero, List.set_cons_succ])
              refine wpG_take _ (.pointer (some ⟨D, 3, none⟩)) rfl (by rfl) (fun Y hY => ex_fa (by omega) rfl rfl) ?_
              (try simp only [Act.put, List.setIfInBounds_toArray, List.set_cons_zero, List.set_cons_succ])
              obtain ⟨sp', cap', hv', _, _⟩ := hcin.form
              have hbD : Blk w5 D (dcells Q M vc to s) 111 := hA5.blk.chg hc5 (fun ⟨_, cs, hbb⟩ => absurd (hbb.same hA5.blk) (by decide))
              refine wpG_st _ rfl (by rfl) (w5.setCell ⟨D, 3, none⟩ v') (by rw [hv']; exact ex_st rfl rfl rfl (hbD.cell rfl) (hbD.free 3)) (fun _ => True) trivial trivial (fun _ h => h) ?_
              refine wpG_nil ?_
              have HA6 := Lib.hid hA6
              clear hA6 hcin hcc5 hc5 hr hA5 hb5 hbD hv' hF1 hld hld2
              go_wp2_with fail
              go_roundw
              case rel =>
                refine ⟨k + 1, by have := HN.out; omega, rfl, v', ?_⟩
                rw [HTK.out, others_snoc, if_neg HXA.out]
                exact HA6.out
              case measure => simp [intOf]; omega
        · obtain rfl : k = N := by have := HN.out; omega
          have HA := Lib.hid hA
          clear hA hlt hk
          go_wp2_with fail
          go_ret
          have hlen : L.length = s.cache.length := by have := HL.out; rw [← this, List.length_map]
          have hA := HA.out
          rw [show k = s.cache.length from HN.out.symm.trans hlen, List.take_length] at hA
          have hs1 := HD1.out
          have hCall : Chg S W wr := ((HC4.out.trans' HW1.out).trans hA.chg (fun i e => .inl (by rw [e]; exact hs1.sd)))
          refine ⟨rfl, ⟨M, vc, to, ⟨hA.blk, ?_, hA.cache.at (fun _ h => .inl h) (fun j hj => .inr ⟨Nat.le_trans (Nat.le_trans HC4.out.size HW1.out.size) hj.1, hj.2⟩), .inl hs1.sd, .inl hs1.sm, ?_, ?_, hs1.tlt, hs1.teq, hs1.nlt⟩⟩, hCall⟩
          · rw [HMEM.out]
            exact hA.map
          · rintro (hh | hh)
            · exact hs1.sq hh
            · omega
          · rintro j (hj | hj)
            · exact Nat.lt_of_lt_of_le (hs1.lt j hj) hA.chg.size
            · exact hj.2
    · rw [if_neg (fun hh => h5 hh.2)]
      have hne : ((n : Int) == 512) = false := by simp; omega
      clear hn
      go_enter Tryd.func36, Tryd.ntmps36
      go_wp2_with (first | (go_at_call 38; refine (d_has_any D Q S s ad ha _ H.out).mono ?_; rw [hde]; rintro e w' ⟨rfl, rfl⟩) | fail)
      go_ret
      exact ⟨rfl, H.out.ext hq, Chg.refl _ _⟩
  · rw [if_neg (fun hh => hn hh.1)]
    have hde : decide (ad < s.n) = false := by simpa using hn
    clear hn
    go_enter Tryd.func36, Tryd.ntmps36
    go_wp2_with (first | (go_at_call 38; refine (d_has_any D Q S s ad ha _ H.out).mono ?_; rw [hde]; rintro e w' ⟨rfl, rfl⟩) | fail)
    go_ret
    exact ⟨rfl, H.out.ext hq, Chg.refl _ _⟩
end Go.Proofs.YtmgagalhpkieoaaDoor
