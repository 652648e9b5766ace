/- ContentKeeps: one act. -/
import Derived.Test.YthionhliokhcgaaCv
namespace Go.Proofs.Ythionhliokhcgaa
open Go.RowKit Go.Shelf

/-- What a byte is behind an act. -/
def wantB (m : List B8) (sz : Nat) (q : AcT) (X p : Nat) : BitVec 8 := if q.d = 1 ∧ X ≤ p ∧ p - X < q.b.length then q.b.getD (p - X) 0 else if p < sz then byt m p else 0
/-- What an act that went makes of leaves. -/
structure Kept (m : List B8) (sz : Nat) (q : AcT) (cs : List (Nat × B8)) (X sz' : Nat) : Prop where
  x : q.x = (X : Int)
  fil : Fil (appC m cs) sz'
  ok : OkCs cs
  len : cs.length ≤ 100
  by_ : ∀ p, p < sz' → byt (appC m cs) p = wantB m sz q X p
  w0 : q.d = 1 → 0 < q.b.length → sz' = max sz (X + q.b.length)
  w1 : q.d = 1 → q.b.length = 0 → sz' = sz
  t : q.d ≠ 1 → sz' = X
  hx : X ≤ 32768
def KeepPost (w : World) (B D : Nat) (vs : List Value) (m : List B8) (av : Value) (aq : List Nat) (sz : Nat) (q : AcT) (e : Ending) (w' : World) : Prop :=
  ∃ (v : Value) (z er : Nat) (av' : Value) (aq' : List Nat), e = .returned (.tuple #[v, .int .u32 (z : Int), .int .i64 (er : Int)]) ∧ ShW w' B D vs m 0 av' aq' ∧ CMv D av w av' w' ∧ aq'.length ≤ aq.length + 100 ∧ (er ≠ 0 ∨ er = 0 ∧ ∃ cs X, ChAt w' w.heap.size v cs ∧ Kept m sz q cs X z)
theorem wr_n {bad : Nat} {wt : Nat → Nat → Bool} {X te n : Nat} {er : Bool} (h : Ran bad wt X te n er) (ht : te ≤ 32768) : n ≤ 64 := by
  rcases Nat.lt_or_ge 64 n with h1 | h1
  · have h2 := (h.all 64 h1).1
    unfold pcA at h2
    rw [if_neg (by omega)] at h2
    omega
  · exact h1
section
variable {w : World} {B D : Nat} {vs : List Value} {m : List B8} {av : Value} {aq : List Nat} {sz : Nat} {q : AcT}
theorem keep_no (h : ShW w B D vs m 0 av aq) {e : Ending} {w' : World} {z er : Nat} (he : er ≠ 0) (h1 : e = .returned (.tuple #[.slice none 0 0, .int .u32 (z : Int), .int .i64 (er : Int)]) ∧ Below w.heap.size w w') : KeepPost w B D vs m av aq sz q e w' :=
  ⟨_, z, er, av, aq, h1.1, h.below h1.2, CMv.of_below D av h1.2, by omega, .inl he⟩
theorem keep_same (h : ShW w B D vs m 0 av aq) {e : Ending} {w' : World} {z X : Nat} (hk : Kept m sz q [] X z) (h1 : e = .returned (.tuple #[.slice none 0 0, .int .u32 (z : Int), .int .i64 0]) ∧ Below w.heap.size w w') : KeepPost w B D vs m av aq sz q e w' :=
  ⟨_, z, 0, av, aq, h1.1, h.below h1.2, CMv.of_below D av h1.2, by omega, .inr ⟨rfl, [], X, ChAt.nil _ _, hk⟩⟩
theorem okNil : OkCs [] := ⟨fun c hc => by simp at hc, fun i c c' hc => by simp at hc⟩
set_option maxHeartbeats 4000000 in
theorem keep_write (h : ShW w B D vs m 0 av aq) (hf : Fil m sz) (hB : B ≤ w.heap.size) (hq : aq.length ≤ 100000) (hd : q.d = 1) (hc : q.b.length ≤ q.cap) (hcm : q.cap ≤ maxLen) (hx : q.x < 9223372036854775808) (hs : 0 < q.b.length → ∃ g o, q.sp = some ⟨g, o, none⟩ ∧ g < B ∧ ∀ j, j < q.b.length → w.cell? ⟨g, o + j, none⟩ = some (V8 (q.b.getD j 0))) :
    Calls Try.prog 8 #[shC D, .int .u32 (sz : Int), .int .i64 q.x, .slice q.sp q.b.length q.cap] w (KeepPost w B D vs m av aq sz q) := by
  by_cases h1 : refN q.x (q.b.length : Int) = 26
  · exact (cwrite_bad D sz q.x q.sp q.b.length q.cap h1 w).mono fun e w' hh => keep_no h (z := 0) (er := 26) (by decide) hh
  · have h2 : ¬ (q.x < 0 ∨ (q.b.length : Int) < 0 ∨ 2048 < (q.b.length : Int)) := fun e => h1 (by unfold refN; rw [if_pos e])
    have h3 : refN q.x (q.b.length : Int) = 0 := by unfold refN; rw [if_neg h2]
    obtain ⟨X, hX⟩ := Int.eq_ofNat_of_zero_le (show 0 ≤ q.x by omega)
    rw [hX] at h3 ⊢
    by_cases h4 : 32768 < X + q.b.length
    · exact (cwrite_big D sz X q.sp q.b.length q.cap h3 h4 (by omega) w).mono fun e w' hh => keep_no h (z := 0) (er := 29) (by decide) hh
    · by_cases h5 : q.b.length = 0
      · rw [h5]
        refine (cwrite_none D sz X q.sp q.cap (by omega) w).mono fun e w' hh => keep_same h (X := X) ⟨hX, hf, okNil, by simp, fun p hp => ?_, fun _ h => by omega, fun _ _ => rfl, fun h => absurd hd h, by omega⟩ hh
        show byt m p = _
        unfold wantB
        rw [if_neg (by omega), if_pos hp]
      · refine (cwrite_any h hf.le hB (by omega) sz X q.b q.sp q.cap hf.top (by omega) (by omega) (by omega) hc hcm (fun h0 => ?_)).mono ?_
        · obtain ⟨g, o, e, hg, hcl⟩ := hs h0
          exact ⟨g, o, e, by omega, fun e => by have := h.lo; omega, fun e => by have := c_owns_lo h.q e; omega, hcl⟩
        · rintro e w' ⟨n, er, v, z, hran, ⟨av', hsh, hm⟩, rfl, hres⟩
          obtain rfl : er = false := hran.no_bad (fun _ _ => bad0 _)
          rw [if_neg (by simp)] at hres
          rw [if_neg (by simp)]
          obtain ⟨rfl, hch⟩ := hres
          have hn := ran_n hran (by omega)
          have hl := ranQ_le wtP X (X + q.b.length) n false
          refine ⟨v, _, 0, av', _, rfl, hsh, hm, by rw [List.length_append]; omega, .inr ⟨rfl, _, X, hch, ?_⟩⟩
          have hall : ∀ j, j < n → pcA X j < X + q.b.length := fun j hj => (hran.all j hj).1
          have hdone := hran.done rfl
          refine ⟨hX, hf.write (by omega) hall hdone, wr_ok hf.le (by omega) hall, by rw [wrU_len]; omega, fun p hp => ?_, fun _ _ => rfl, fun _ h => absurd h h5, fun h => absurd hd h, by omega⟩
          rw [wr_byt hf.le hf.len (by omega) hall hdone]
          unfold wantB
          by_cases h6 : X ≤ p ∧ p < X + q.b.length
          · rw [if_pos h6, if_pos ⟨hd, h6.1, by omega⟩]
          · rw [if_neg h6, if_neg (by omega)]
            by_cases h7 : p < sz
            · rw [if_pos h7]
            · rw [if_neg h7]; exact hf.nil p (by omega)
set_option maxHeartbeats 4000000 in
theorem keep_trunc (h : ShW w B D vs m 0 av aq) (hf : Fil m sz) (hB : B ≤ w.heap.size) (hq : aq.length ≤ 100000) (hd : q.d ≠ 1) (hx : q.x < 9223372036854775808) :
    Calls Try.prog 9 #[shC D, .int .u32 (sz : Int), .int .i64 q.x] w (KeepPost w B D vs m av aq sz q) := by
  by_cases h1 : refN q.x 0 = 26
  · exact (ctrunc_bad D sz q.x h1 w).mono fun e w' hh => keep_no h (z := 0) (er := 26) (by decide) hh
  · have h2 : ¬ (q.x < 0 ∨ (0 : Int) < 0 ∨ 2048 < (0 : Int)) := fun e => h1 (by unfold refN; rw [if_pos e])
    obtain ⟨X, hX⟩ := Int.eq_ofNat_of_zero_le (show 0 ≤ q.x by omega)
    rw [hX]
    have hw : ∀ p, wantB m sz q X p = if p < sz then byt m p else 0 := fun p => by unfold wantB; rw [if_neg (fun e => hd e.1)]
    by_cases h4 : 32768 < X
    · exact (ctrunc_big D sz X h4 (by omega) w).mono fun e w' hh => keep_no h (z := 0) (er := 29) (by decide) hh
    · by_cases h5 : sz ≤ X
      · refine (ctrunc_up D sz X (by omega) h5 w).mono fun e w' hh => keep_same h (X := X) ⟨hX, hf.up h5 (by omega), okNil, by simp, fun p hp => ?_, fun h => absurd h hd, fun h => absurd h hd, fun _ => rfl, by omega⟩ hh
        show byt m p = _
        rw [hw]
        by_cases h7 : p < sz
        · rw [if_pos h7]
        · rw [if_neg h7]; exact hf.nil p (by omega)
      · refine (ctrunc_any h hf.le hB (by omega) sz X hf.top (by omega)).mono ?_
        rintro e w' ⟨n, er, v, z, hran, ⟨av', hsh, hm⟩, rfl, hres⟩
        obtain rfl : er = false := hran.no_bad (fun _ _ => bad0 _)
        rw [if_neg (by simp)] at hres
        rw [if_neg (by simp)]
        obtain ⟨rfl, hch⟩ := hres
        have hte : trTe sz ≤ 32768 := by have := hf.top; unfold trTe; omega
        have hn := wr_n hran hte
        have hl := ranQ_le wtP z (trTe sz) n false
        have hl2 := trU_len m z (trTe sz) n
        refine ⟨v, _, 0, av', _, rfl, hsh, hm, by rw [List.length_append]; omega, .inr ⟨rfl, _, z, hch, ?_⟩⟩
        have hall : ∀ j, j < n → pcA z j < trTe sz := fun j hj => (hran.all j hj).1
        have hdone := hran.done rfl
        refine ⟨hX, hf.cut (by omega) hall hdone, tr_ok hf.le hf.top hall, by omega, fun p hp => ?_, fun h => absurd h hd, fun h => absurd h hd, fun _ => rfl, by omega⟩
        rw [tr_byt hf.le hf.len hf.top hall hdone, hw, if_neg (by omega), if_pos (by omega)]
end
end Go.Proofs.Ythionhliokhcgaa
