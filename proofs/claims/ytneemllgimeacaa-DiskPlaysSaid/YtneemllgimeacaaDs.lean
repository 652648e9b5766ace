/- Power, and a disk: plain, and in memory; the methods that look, and those of the power. -/
import Derived.Test.YtneemllgimeacaaDk
import Derived.Test.YtneemllgimeacaaSched
namespace Go.Proofs.Ytneemllgimeacaa
open Go.RowKit

structure Pw where
  on : Bool
  fuse : Int
def Pw.step (p : Pw) : Bool × Pw :=
  if p.on = false then (false, p) else if p.fuse = 0 then (false, ⟨false, -1⟩) else if 0 < p.fuse then (true, ⟨true, p.fuse - 1⟩) else (true, p)
def Pw.set (p : Pw) (n : Int) : Pw := if p.on then ⟨true, max n (-1)⟩ else p
structure PwAt (w : World) (Q : Nat) (p : Pw) : Prop where
  blk : Blk w Q [.bool p.on, .int .i64 p.fuse] 71
  lo : -1 ≤ p.fuse
  hi : p.fuse ≤ 9223372036854775807
theorem PwAt.chg {F : Nat → Prop} {w w' : World} {Q : Nat} {p : Pw} (h : PwAt w Q p) (hc : Chg F w w') (hn : ¬ F Q) : PwAt w' Q p := ⟨h.blk.chg hc hn, h.lo, h.hi⟩
theorem PwAt.c0 {w : World} {Q : Nat} {p : Pw} (h : PwAt w Q p) : w.cell? ⟨Q, 0, none⟩ = some (.bool p.on) := h.blk.cell rfl
theorem PwAt.c1 {w : World} {Q : Nat} {p : Pw} (h : PwAt w Q p) : w.cell? ⟨Q, 1, none⟩ = some (.int .i64 p.fuse) := h.blk.cell rfl

theorem on_any (w : World) : Calls Try.prog 10 #[] w fun e w' => ∃ Q, e = .returned (.pointer (some ⟨Q, 0, none⟩)) ∧ w.heap.size ≤ Q ∧ Q < w'.heap.size ∧ PwAt w' Q ⟨true, -1⟩ ∧ Below w.heap.size w w' := by
  go_enter Try.func10, Try.ntmps10
  go_wp2
  go_ret
  exact ⟨_, rfl, Nat.le_refl _, by simp, ⟨Blk.new' _ _ _ _ _ rfl rfl, by simp, by simp⟩, (Below.refl _ _).alloc (Nat.le_refl _) _⟩
theorem is_nil (w : World) : Calls Try.prog 14 #[.pointer none] w fun e w' => e = .returned (.bool false) ∧ w = w' := by
  go_enter Try.func14, Try.ntmps14
  go_wp2
  go_ret
  exact ⟨rfl, rfl⟩
theorem is_any (Q : Nat) (p : Pw) (w : World) (h : PwAt w Q p) : Calls Try.prog 14 #[.pointer (some ⟨Q, 0, none⟩)] w fun e w' => e = .returned (.bool p.on) ∧ w = w' := by
  have c0 := h.c0
  clear h
  go_enter Try.func14, Try.ntmps14
  go_wp2
  go_ret
  exact ⟨rfl, rfl⟩
theorem fuse_nil (n : Int) (w : World) : Calls Try.prog 16 #[.pointer none, .int .i64 n] w fun e w' => e = .returned (.tuple #[]) ∧ w = w' := by
  go_enter Try.func16, Try.ntmps16
  go_wp2_with (go_at_call 14; refine (is_nil _).mono ?_; rintro e w' ⟨rfl, rfl⟩)
  go_end0
  exact ⟨rfl, rfl⟩
theorem back_nil (w : World) : Calls Try.prog 17 #[.pointer none] w fun e w' => e = .returned (.tuple #[]) ∧ w = w' := by
  go_enter Try.func17, Try.ntmps17
  go_wp2
  go_end0
  exact ⟨rfl, rfl⟩
theorem step_nil (w : World) : Calls Try.prog 24 #[.pointer none] w fun e w' => e = .returned (.bool false) ∧ w = w' := by
  go_enter Try.func24, Try.ntmps24
  go_wp2_with (go_at_call 14; refine (is_nil _).mono ?_; rintro e w' ⟨rfl, rfl⟩)
  go_ret
  exact ⟨rfl, rfl⟩
theorem PwAt.set1 {w : World} {Q : Nat} {p : Pw} (h : PwAt w Q p) (f : Int) (h1 : -1 ≤ f) (h2 : f ≤ 9223372036854775807) : PwAt (w.setCell ⟨Q, 1, none⟩ (.int .i64 f)) Q ⟨p.on, f⟩ := ⟨h.blk.set 1 _, h1, h2⟩
theorem PwAt.set01 {w : World} {Q : Nat} {p : Pw} (h : PwAt w Q p) (b : Bool) (f : Int) (h1 : -1 ≤ f) (h2 : f ≤ 9223372036854775807) : PwAt ((w.setCell ⟨Q, 0, none⟩ (.bool b)).setCell ⟨Q, 1, none⟩ (.int .i64 f)) Q ⟨b, f⟩ := ⟨(h.blk.set 0 _).set 1 _, h1, h2⟩
theorem chgQ {w : World} (Q : Nat) (j : Nat) (v : Value) : Chg (fun k => k = Q) w (w.setCell ⟨Q, j, none⟩ v) := (Chg.refl (fun k => k = Q) w).setCell (.inl rfl) j v
theorem fuse_any (Q : Nat) (p : Pw) (n : Int) (w : World) (h : PwAt w Q p) (hn : n ≤ 9223372036854775807) : Calls Try.prog 16 #[.pointer (some ⟨Q, 0, none⟩), .int .i64 n] w fun e w' => e = .returned (.tuple #[]) ∧ PwAt w' Q (p.set n) ∧ Chg (fun k => k = Q) w w' := by
  have H := Lib.hid h
  have c1 := h.c1
  have f1 := h.blk.free 1
  clear h
  obtain ⟨on, fu⟩ := p
  go_enter Try.func16, Try.ntmps16
  cases on
  · go_wp2_with (go_at_call 14; refine (is_any _ _ _ H.out).mono ?_; rintro e w' ⟨rfl, rfl⟩)
    go_end0
    exact ⟨rfl, H.out, Chg.refl _ _⟩
  · go_wp2_with (go_at_call 14; refine (is_any _ _ _ H.out).mono ?_; rintro e w' ⟨rfl, rfl⟩)
    all_goals
      go_end0
      refine ⟨rfl, ?_, chgQ Q 1 _⟩
      have h2 := H.out.set1 (max n (-1)) (by omega) (by omega)
      first
        | exact h2
        | (have e : max n (-1) = n := by omega
           rw [e] at h2
           unfold Pw.set
           rw [if_pos rfl, e]
           exact h2)
        | (have e : max n (-1) = -1 := by omega
           rw [e] at h2
           unfold Pw.set
           rw [if_pos rfl, e]
           exact h2)
theorem back_any (Q : Nat) (p : Pw) (w : World) (h : PwAt w Q p) : Calls Try.prog 17 #[.pointer (some ⟨Q, 0, none⟩)] w fun e w' => e = .returned (.tuple #[]) ∧ PwAt w' Q ⟨true, -1⟩ ∧ Chg (fun k => k = Q) w w' := by
  have H := Lib.hid h
  have c0 := h.c0
  have c1 := h.c1
  have f0 := h.blk.free 0
  have f1 := h.blk.free 1
  clear h
  go_enter Try.func17, Try.ntmps17
  go_wp2
  go_end0
  exact ⟨rfl, H.out.set01 true (-1) (by omega) (by omega), (chgQ Q 0 _).trans' (chgQ Q 1 _)⟩
theorem step_any (Q : Nat) (p : Pw) (w : World) (h : PwAt w Q p) : Calls Try.prog 24 #[.pointer (some ⟨Q, 0, none⟩)] w fun e w' => e = .returned (.bool p.step.1) ∧ PwAt w' Q p.step.2 ∧ Chg (fun k => k = Q) w w' := by
  have H := Lib.hid h
  have c0 := h.c0
  have c1 := h.c1
  have f0 := h.blk.free 0
  have f1 := h.blk.free 1
  have hlo := h.lo
  have hhi := h.hi
  clear h
  obtain ⟨on, fu⟩ := p
  simp only at c0 c1 hlo hhi
  unfold Pw.step
  simp only
  cases on
  · rw [if_pos rfl]
    go_enter Try.func24, Try.ntmps24
    go_wp2_with (go_at_call 14; refine (is_any _ _ _ H.out).mono ?_; rintro e w' ⟨rfl, rfl⟩)
    go_ret
    exact ⟨rfl, H.out, Chg.refl _ _⟩
  · rw [if_neg (by simp)]
    by_cases h0 : fu = 0
    · rw [if_pos h0]
      subst h0
      go_enter Try.func24, Try.ntmps24
      go_wp2_with (go_at_call 14; refine (is_any _ _ _ H.out).mono ?_; rintro e w' ⟨rfl, rfl⟩)
      go_ret
      exact ⟨rfl, H.out.set01 false (-1) (by omega) (by omega), (chgQ Q 0 _).trans' (chgQ Q 1 _)⟩
    · rw [if_neg h0]
      by_cases h1 : 0 < fu
      · rw [if_pos h1]
        have hw := IntWalk.i64_in (fu - 1) (by omega)
        go_enter Try.func24, Try.ntmps24
        go_wp2_with (go_at_call 14; refine (is_any _ _ _ H.out).mono ?_; rintro e w' ⟨rfl, rfl⟩)
        go_ret
        exact ⟨rfl, H.out.set1 (fu - 1) (by omega) (by omega), chgQ Q 1 _⟩
      · rw [if_neg h1]
        go_enter Try.func24, Try.ntmps24
        go_wp2_with (go_at_call 14; refine (is_any _ _ _ H.out).mono ?_; rintro e w' ⟨rfl, rfl⟩)
        go_ret
        exact ⟨rfl, H.out, Chg.refl _ _⟩

/-- A disk. -/
structure Dsk where
  n : Nat
  mem : Nat → Bk
  cache : List (Nat × Bs)
  dead : Bool
  lose : Bool
  astray : Option Nat
def crow (L : List (Nat × Nat × Bs)) : List Value := L.flatMap fun x => [Value.int .u16 (x.1 : Int), Value.slice (some ⟨x.2.1, 0, none⟩) 512 512]
theorem crow_length : ∀ L : List (Nat × Nat × Bs), (crow L).length = L.length * 2
  | [] => rfl
  | x :: L => by
    have := crow_length L
    simp only [crow, List.flatMap_cons, List.length_append, List.length_cons, List.length_nil] at *
    omega
/-- The writes l lie in the slice v. -/
def Writes (w : World) (S : Nat → Prop) (L : List (Nat × Nat × Bs)) : Prop := ∀ x ∈ L, x.1 < 65536 ∧ x.2.2.length = 512 ∧ Blk w x.2.1 (x.2.2.map V8) 5 ∧ S x.2.1
def CacheAt (w : World) (S : Nat → Prop) (v : Value) (l : List (Nat × Bs)) : Prop :=
  ∃ L : List (Nat × Nat × Bs), L.map (fun x => (x.1, x.2.2)) = l ∧ Writes w S L ∧
    ((∃ sp, v = .slice sp 0 0 ∧ L = []) ∨ (w.ownsRow 0 100 2 v L.length (crow L) ∧ ∃ g, v.ownBlock = some g ∧ S g))
theorem Writes.chg {F S : Nat → Prop} {w w' : World} {L : List (Nat × Nat × Bs)} (h : Writes w S L) (hc : Chg F w w') (hn : ∀ k, S k → ¬ F k) : Writes w' S L := fun x hx => by
  obtain ⟨h1, h2, h3, h4⟩ := h x hx
  exact ⟨h1, h2, h3.chg hc (hn _ h4), h4⟩
theorem Writes.mono {S S' : Nat → Prop} {w : World} {L : List (Nat × Nat × Bs)} (h : Writes w S L) (hs : ∀ k, S k → S' k) : Writes w S' L := fun x hx => by
  obtain ⟨h1, h2, h3, h4⟩ := h x hx
  exact ⟨h1, h2, h3, hs _ h4⟩
/-- .. where only what is no row of bytes turned. -/
theorem Writes.turned {F S : Nat → Prop} {w w' : World} {L : List (Nat × Nat × Bs)} (h : Writes w S L) (hc : Chg F w w') (hn : ∀ k cs, F k → ¬ Blk w k cs 5) : Writes w' S L := fun x hx => by
  obtain ⟨h1, h2, h3, h4⟩ := h x hx
  exact ⟨h1, h2, h3.chg hc (fun hf => hn _ _ hf h3), h4⟩
theorem owns_chg {F : Nat → Prop} {w w' : World} {B e k n : Nat} {v : Value} {xs : List Value} (h : w.ownsRow B e k v n xs) (hc : Chg F w w') (hn : ∀ g, v.ownBlock = some g → ¬ F g) : w'.ownsRow B e k v n xs := by
  refine ⟨h.1, ?_⟩
  rcases h.2 with hx | ⟨g, cap, cur, rfl, hb, hgg, rest⟩
  · exact .inl hx
  · refine .inr ⟨g, cap, cur, rfl, hb, ?_, rest⟩
    rw [hc.block g (Array.getElem?_eq_some_iff.1 hgg).1 (hn g rfl)]
    exact hgg
theorem CacheAt.chg {F S : Nat → Prop} {w w' : World} {v : Value} {l : List (Nat × Bs)} (h : CacheAt w S v l) (hc : Chg F w w') (hn : ∀ k, S k → ¬ F k) : CacheAt w' S v l := by
  obtain ⟨L, h1, h2, h3⟩ := h
  refine ⟨L, h1, h2.chg hc hn, ?_⟩
  rcases h3 with h3 | ⟨h3, g, h4, h5⟩
  · exact .inl h3
  · exact .inr ⟨owns_chg h3 hc (fun g' hg' => by rw [h4] at hg'; cases hg'; exact hn _ h5), g, h4, h5⟩
theorem owns_noBlk {w : World} {B e k n g : Nat} {v : Value} {xs : List Value} (h : w.ownsRow B e k v n xs) (hg : v.ownBlock = some g) {cs : List Value} {t : Nat} (hb : Blk w g cs t) : t = e := by
  rcases h.2 with ⟨rfl, _⟩ | ⟨g', cap, cur, rfl, _, hgg, _⟩
  · simp [Value.ownBlock] at hg
  · simp [Value.ownBlock] at hg
    subst hg
    unfold Blk at hb
    rw [hgg] at hb
    simp at hb
    exact hb.2.symm
/-- .. where only rows of other kinds turned. -/
theorem CacheAt.turned {F S : Nat → Prop} {w w' : World} {v : Value} {l : List (Nat × Bs)} (h : CacheAt w S v l) (hc : Chg F w w') (hn : ∀ k cs, F k → ¬ Blk w k cs 5) (hn2 : ∀ k cs, F k → w.heap[k]? ≠ some (.cells cs 100 (0, 0))) : CacheAt w' S v l := by
  obtain ⟨L, h1, h2, h3⟩ := h
  refine ⟨L, h1, h2.turned hc hn, ?_⟩
  rcases h3 with h3 | ⟨h3, g, h4, h5⟩
  · exact .inl h3
  · refine .inr ⟨owns_chg h3 hc (fun g' hg' hf => ?_), g, h4, h5⟩
    rcases h3.2 with ⟨rfl, _⟩ | ⟨g2, cap, cur, rfl, _, hgg, _⟩
    · simp [Value.ownBlock] at hg'
    · simp [Value.ownBlock] at hg'
      subst hg'
      exact hn2 _ _ hf hgg
theorem CacheAt.mono {S S' : Nat → Prop} {w : World} {v : Value} {l : List (Nat × Bs)} (h : CacheAt w S v l) (hs : ∀ k, S k → S' k) : CacheAt w S' v l := by
  obtain ⟨L, h1, h2, h3⟩ := h
  refine ⟨L, h1, h2.mono hs, ?_⟩
  rcases h3 with h3 | ⟨h3, g, h4, h5⟩
  · exact .inl h3
  · exact .inr ⟨h3, g, h4, hs _ h5⟩
theorem CacheAt.form {S : Nat → Prop} {w : World} {v : Value} {l : List (Nat × Bs)} (h : CacheAt w S v l) : ∃ sp cap, v = .slice sp l.length cap ∧ l.length ≤ cap ∧ cap ≤ maxLen := by
  obtain ⟨L, rfl, _, h3⟩ := h
  rw [List.length_map]
  rcases h3 with ⟨sp, rfl, rfl⟩ | ⟨h3, _⟩
  · exact ⟨sp, 0, rfl, by simp, by unfold maxLen; omega⟩
  · rcases h3.2 with ⟨rfl, e⟩ | ⟨g, cap, cur, rfl, _, _, hc, hm, _⟩
    · exact ⟨none, 0, by rw [e], by omega, by unfold maxLen; omega⟩
    · exact ⟨_, cap, rfl, hc, hm⟩
def dcells (Q M : Nat) (v : Value) (to : Nat) (s : Dsk) : List Value := [.pointer (some ⟨Q, 0, none⟩), .int .i64 (s.n : Int), .map (some M), v, .bool s.dead, .bool s.lose, .bool s.astray.isSome, .int .u16 (to : Int)]
/-- The disk s, its map, its cache in given places. -/
structure DkIn (w : World) (D Q M : Nat) (v : Value) (to : Nat) (S : Nat → Prop) (s : Dsk) : Prop where
  blk : Blk w D (dcells Q M v to s) 75
  map : MapAt w M s.mem
  cache : CacheAt w S v s.cache
  sd : S D
  sm : S M
  sq : ¬ S Q
  lt : ∀ k, S k → k < w.heap.size
  tlt : to < 65536
  teq : ∀ t, s.astray = some t → to = t
  nlt : s.n ≤ 65536
def DkAt (w : World) (D Q : Nat) (S : Nat → Prop) (s : Dsk) : Prop := ∃ M v to, DkIn w D Q M v to S s
theorem DkAt.chg {F S : Nat → Prop} {w w' : World} {D Q : Nat} {s : Dsk} (h : DkAt w D Q S s) (hc : Chg F w w') (hn : ∀ k, S k → ¬ F k) : DkAt w' D Q S s := by
  obtain ⟨M, v, to, h⟩ := h
  exact ⟨M, v, to, ⟨h.blk.chg hc (hn _ h.sd), h.map.chg hc (hn _ h.sm), h.cache.chg hc hn, h.sd, h.sm, h.sq, fun k hk => Nat.lt_of_lt_of_le (h.lt k hk) hc.size, h.tlt, h.teq, h.nlt⟩⟩
theorem DkIn.c {w : World} {D Q M : Nat} {v : Value} {to : Nat} {S : Nat → Prop} {s : Dsk} (h : DkIn w D Q M v to S s) : w.cell? ⟨D, 0, none⟩ = some (.pointer (some ⟨Q, 0, none⟩)) ∧ w.cell? ⟨D, 1, none⟩ = some (.int .i64 (s.n : Int)) ∧ w.cell? ⟨D, 2, none⟩ = some (.map (some M)) ∧ w.cell? ⟨D, 3, none⟩ = some v ∧
    w.cell? ⟨D, 4, none⟩ = some (.bool s.dead) ∧ w.cell? ⟨D, 5, none⟩ = some (.bool s.lose) ∧ w.cell? ⟨D, 6, none⟩ = some (.bool s.astray.isSome) ∧ w.cell? ⟨D, 7, none⟩ = some (.int .u16 (to : Int)) :=
  ⟨h.blk.cell rfl, h.blk.cell rfl, h.blk.cell rfl, h.blk.cell rfl, h.blk.cell rfl, h.blk.cell rfl, h.blk.cell rfl, h.blk.cell rfl⟩

/-- Why it does nothing, or 0. -/
def idle (s : Dsk) (p : Pw) : Int := if s.dead then 3 else if p.on then 0 else 3
theorem idle_nil (w : World) : Calls Try.prog 36 #[.pointer none] w fun e w' => e = .returned (.int .i64 2) ∧ w = w' := by
  go_enter Try.func36, Try.ntmps36
  go_wp2
  go_ret
  exact ⟨rfl, rfl⟩
theorem idle_any (D Q : Nat) (S : Nat → Prop) (s : Dsk) (p : Pw) (w : World) (h : DkAt w D Q S s) (hp : PwAt w Q p) : Calls Try.prog 36 #[.pointer (some ⟨D, 0, none⟩)] w fun e w' => e = .returned (.int .i64 (idle s p)) ∧ w = w' := by
  obtain ⟨M, v, to, h⟩ := h
  obtain ⟨c0, c1, c2, c3, c4, c5, c6, c7⟩ := h.c
  have HP := Lib.hid hp
  clear h hp c1 c2 c3 c5 c6 c7
  obtain ⟨on, fu⟩ := p
  obtain ⟨n, mem, cache, dead, lose, ast⟩ := s
  simp only at c4
  unfold idle
  go_enter Try.func36, Try.ntmps36
  cases dead
  · cases on
    · go_wp2_with (go_at_call 14; refine (is_any _ _ _ HP.out).mono ?_; rintro e w' ⟨rfl, rfl⟩)
      go_ret
      exact ⟨rfl, rfl⟩
    · go_wp2_with (go_at_call 14; refine (is_any _ _ _ HP.out).mono ?_; rintro e w' ⟨rfl, rfl⟩)
      go_ret
      exact ⟨rfl, rfl⟩
  · go_wp2
    go_ret
    exact ⟨rfl, rfl⟩
theorem dead_nil (w : World) : Calls Try.prog 30 #[.pointer none] w fun e w' => e = .returned (.bool true) ∧ w = w' := by
  go_enter Try.func30, Try.ntmps30
  go_wp2
  go_ret
  exact ⟨rfl, rfl⟩
theorem dead_any (D Q : Nat) (S : Nat → Prop) (s : Dsk) (w : World) (h : DkAt w D Q S s) : Calls Try.prog 30 #[.pointer (some ⟨D, 0, none⟩)] w fun e w' => e = .returned (.bool s.dead) ∧ w = w' := by
  obtain ⟨M, v, to, h⟩ := h
  obtain ⟨c0, c1, c2, c3, c4, c5, c6, c7⟩ := h.c
  clear h c0 c1 c2 c3 c5 c6 c7
  go_enter Try.func30, Try.ntmps30
  go_wp2
  go_ret
  exact ⟨rfl, rfl⟩
theorem blocks_nil (w : World) : Calls Try.prog 31 #[.pointer none] w fun e w' => e = .returned (.int .i64 0) ∧ w = w' := by
  go_enter Try.func31, Try.ntmps31
  go_wp2
  go_ret
  exact ⟨rfl, rfl⟩
theorem blocks_any (D Q : Nat) (S : Nat → Prop) (s : Dsk) (w : World) (h : DkAt w D Q S s) : Calls Try.prog 31 #[.pointer (some ⟨D, 0, none⟩)] w fun e w' => e = .returned (.int .i64 (s.n : Int)) ∧ w = w' := by
  obtain ⟨M, v, to, h⟩ := h
  obtain ⟨c0, c1, c2, c3, c4, c5, c6, c7⟩ := h.c
  clear h c0 c2 c3 c4 c5 c6 c7
  go_enter Try.func31, Try.ntmps31
  go_wp2
  go_ret
  exact ⟨rfl, rfl⟩
theorem cached_nil (w : World) : Calls Try.prog 32 #[.pointer none] w fun e w' => e = .returned (.int .i64 0) ∧ w = w' := by
  go_enter Try.func32, Try.ntmps32
  go_wp2
  go_ret
  exact ⟨rfl, rfl⟩
theorem cached_any (D Q : Nat) (S : Nat → Prop) (s : Dsk) (w : World) (h : DkAt w D Q S s) : Calls Try.prog 32 #[.pointer (some ⟨D, 0, none⟩)] w fun e w' => e = .returned (.int .i64 (s.cache.length : Int)) ∧ w = w' := by
  obtain ⟨M, v, to, h⟩ := h
  obtain ⟨c0, c1, c2, c3, c4, c5, c6, c7⟩ := h.c
  obtain ⟨sp, cap, rfl, _, _⟩ := h.cache.form
  clear h c0 c1 c2 c4 c5 c6 c7
  go_enter Try.func32, Try.ntmps32
  go_wp2
  go_ret
  exact ⟨rfl, rfl⟩
theorem has_any (D Q : Nat) (S : Nat → Prop) (s : Dsk) (a : Nat) (ha : a < 65536) (w : World) (h : DkAt w D Q S s) : Calls Try.prog 47 #[.pointer (some ⟨D, 0, none⟩), .int .u16 (a : Int)] w fun e w' => e = .returned (.bool (decide (a < s.n))) ∧ w = w' := by
  obtain ⟨M, v, to, h⟩ := h
  obtain ⟨c0, c1, c2, c3, c4, c5, c6, c7⟩ := h.c
  clear h c0 c2 c3 c4 c5 c6 c7
  have hw := IntWalk.i64_in (a : Int) (by omega)
  go_enter Try.func47, Try.ntmps47
  go_wp2
  go_ret
  refine ⟨?_, rfl⟩
  simp
theorem lose_nil (w : World) : Calls Try.prog 18 #[.pointer none] w fun e w' => e = .returned (.tuple #[]) ∧ w = w' := by
  go_enter Try.func18, Try.ntmps18
  go_wp2
  go_end0
  exact ⟨rfl, rfl⟩
theorem astray_nil (a : Int) (w : World) : Calls Try.prog 19 #[.pointer none, .int .u16 a] w fun e w' => e = .returned (.tuple #[]) ∧ w = w' := by
  go_enter Try.func19, Try.ntmps19
  go_wp2
  go_end0
  exact ⟨rfl, rfl⟩
theorem die_nil (w : World) : Calls Try.prog 20 #[.pointer none] w fun e w' => e = .returned (.tuple #[]) ∧ w = w' := by
  go_enter Try.func20, Try.ntmps20
  go_wp2
  go_end0
  exact ⟨rfl, rfl⟩
end Go.Proofs.Ytneemllgimeacaa
