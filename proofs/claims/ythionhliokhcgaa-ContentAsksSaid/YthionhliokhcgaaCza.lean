/- ContentAsks: what is asked for: plain; the last act. -/
import Derived.Test.YthionhliokhcgaaCw
namespace Go.Proofs.Ythionhliokhcgaa
open Go.RowKit Go.Shelf

section
variable {wt : Nat → Nat → Bool} {fr te : Nat}
theorem askU_mem {n k : Nat} (h : k ∈ askU wt fr te n) : ∃ j, j < n ∧ k = pcO fr j ∧ wt (pcF fr j) (pcT fr te j) = true := by
  unfold askU at h
  rw [List.mem_flatMap] at h
  obtain ⟨j, hj, hk⟩ := h
  rw [List.mem_range] at hj
  unfold ask1 at hk
  split at hk
  · rename_i hw
    exact ⟨j, hj, by simpa using hk, hw⟩
  · simp at hk
theorem askU_has {n j : Nat} (h : j < n) (hw : wt (pcF fr j) (pcT fr te j) = true) : pcO fr j ∈ askU wt fr te n := by
  unfold askU
  rw [List.mem_flatMap]
  exact ⟨j, List.mem_range.2 h, by unfold ask1; rw [if_pos hw]; simp⟩
theorem askU_pw : ∀ n, (askU wt fr te n).Pairwise (· < ·)
  | 0 => by simp [askU]
  | n + 1 => by
    rw [askU_succ, List.pairwise_append]
    refine ⟨askU_pw n, ?_, fun a ha b hb => ?_⟩
    · unfold ask1; split <;> simp
    · obtain ⟨j, hj, rfl, _⟩ := askU_mem ha
      unfold ask1 at hb
      split at hb
      · simp at hb; subst hb; unfold pcO; omega
      · simp at hb
end
/-- Just the leaves are asked for that must be; one of them can't be read just where the error says so. -/
structure AskGood (bad d : Nat) (X tq : Int) (A : List Nat) (er : Nat) : Prop where
  mem : ∀ k ∈ A, k < 64 ∧ (∃ x : Nat, X = (x : Int) ∧ x ≤ 32768 ∧ x / 512 ≤ k) ∧ ((512 * k : Nat) : Int) < tq ∧ ¬ (d = 1 ∧ X ≤ ((512 * k : Nat) : Int) ∧ ((512 * k + 512 : Nat) : Int) ≤ tq)
  pw : A.Pairwise (· < ·)
  any : A.any (badAt bad) = decide (er = 21)
  len : A.length ≤ 100
theorem AskGood.nil (bad d : Nat) (X tq : Int) {er : Nat} (h : er ≠ 21) : AskGood bad d X tq [] er := ⟨fun k hk => by simp at hk, by simp, by simp [h], by simp⟩
theorem ran_good {bad d : Nat} {wt : Nat → Nat → Bool} {X te n : Nat} {er : Bool} (h : Ran bad wt X te n er) (hte : te ≤ 32768) (tq : Int) (hto : ∀ j, pcA X j < te → wt (pcF X j) (pcT X te j) = true → ((512 * pcO X j : Nat) : Int) < tq ∧ ¬ (d = 1 ∧ (X : Int) ≤ ((512 * pcO X j : Nat) : Int) ∧ ((512 * pcO X j + 512 : Nat) : Int) ≤ tq)) :
    AskGood bad d (X : Int) tq (ranQ wt X te n er) (if er = true then 21 else 0) := by
  have hn := wr_n h hte
  have hl := ranQ_le wt X te n er
  have hin : ∀ k ∈ ranQ wt X te n er, ∃ j, k = pcO X j ∧ wt (pcF X j) (pcT X te j) = true ∧ pcA X j < te ∧ (er = false → j < n) := fun k hk => by
    unfold ranQ at hk
    cases er with
    | true =>
      rw [if_pos rfl] at hk
      obtain ⟨j, hj, rfl, hw⟩ := askU_mem hk
      refine ⟨j, rfl, hw, ?_, fun e => by cases e⟩
      rcases Nat.lt_succ_iff_lt_or_eq.1 hj with h1 | rfl
      · exact (h.all j h1).1
      · exact (h.last rfl).1
    | false =>
      rw [if_neg (by simp)] at hk
      obtain ⟨j, hj, rfl, hw⟩ := askU_mem hk
      exact ⟨j, rfl, hw, (h.all j hj).1, fun _ => hj⟩
  refine ⟨fun k hk => ?_, by unfold ranQ; exact askU_pw _, ?_, by omega⟩
  · obtain ⟨j, rfl, hw, hj, -⟩ := hin k hk
    have h1 := pcA_eq X j
    have h2 := pcA_le X j
    obtain ⟨h3, h4⟩ := hto j hj hw
    exact ⟨by omega, ⟨X, rfl, by omega, by unfold pcO; omega⟩, h3, h4⟩
  · cases er with
    | true =>
      rw [if_pos rfl, decide_eq_true rfl, List.any_eq_true]
      obtain ⟨_, h2, h3⟩ := h.last rfl
      exact ⟨pcO X n, by unfold ranQ; rw [if_pos rfl]; exact askU_has (by omega) h2, h3⟩
    | false =>
      rw [if_neg (by simp), decide_eq_false (by simp), List.any_eq_false]
      intro k hk
      obtain ⟨j, rfl, hw, -, hj⟩ := hin k hk
      rw [(h.all j (hj rfl)).2 hw]
      simp
/-- Where the range ends that the law says. -/
def toV (d sz : Nat) (X N : Int) (bl er : Nat) : Int :=
  if d = 0 then (if er = 0 ∨ er = 21 then (if RowKit.wrap64 (X + N) < (sz : Int) then RowKit.wrap64 (X + N) else (sz : Int)) else X)
  else if d = 1 then (if er = 0 ∨ er = 21 then X + (bl : Int) else X)
  else (if (er = 0 ∧ X % 512 ≠ 0 ∧ X < (sz : Int)) ∨ er = 21 then X + 1 else X)
theorem toV_rd (sz : Nat) (X N : Int) (bl : Nat) {er : Nat} (h : er = 0 ∨ er = 21) : toV 0 sz X N bl er = if RowKit.wrap64 (X + N) < (sz : Int) then RowKit.wrap64 (X + N) else (sz : Int) := by
  unfold toV
  exact (if_pos rfl).trans (if_pos h)
/-- Behind the last act. -/
structure LastK (w w' : World) (B D : Nat) (vs : List Value) (m : List B8) (bad : Nat) (av : Value) (d sz : Nat) (X N : Int) (bl ng er : Nat) : Prop where
  ex : ∃ av' A, ShW w' B D vs m bad av' A ∧ CMv D av w av' w' ∧ AskGood bad d X (toV d sz X N bl er) A er
  none : er ≠ 0 → ng = 0
  top : d ≠ 0 → er = 0 ∨ er = 21 → 0 ≤ X ∧ X ≤ 32768
section
variable {w : World} {B D : Nat} {vs : List Value} {m : List B8} {bad : Nat} {av : Value} {sz : Nat}
theorem last_no (h : ShW w B D vs m bad av []) {w' : World} (hb : Below w.heap.size w w') {d bl er : Nat} {X N : Int} (h0 : er ≠ 0) (h1 : er ≠ 21) : LastK w w' B D vs m bad av d sz X N bl 0 er :=
  ⟨⟨av, [], h.below hb, CMv.of_below D av hb, AskGood.nil _ _ _ _ h1⟩, fun _ => rfl, fun _ e => by rcases e with e | e; exact absurd e h0; exact absurd e h1⟩
theorem last_same (h : ShW w B D vs m bad av []) {w' : World} (hb : Below w.heap.size w w') {d bl : Nat} {X N : Int} (hX : 0 ≤ X ∧ X ≤ 32768) : LastK w w' B D vs m bad av d sz X N bl 0 0 :=
  ⟨⟨av, [], h.below hb, CMv.of_below D av hb, AskGood.nil _ _ _ _ (by decide)⟩, fun _ => rfl, fun _ _ => hX⟩
theorem last_read (h : ShW w B D vs m bad av []) (hf : Fil m sz) (hB : B ≤ w.heap.size) (X N : Int) (hx : X < 9223372036854775808) :
    Calls Try.prog 11 #[shC D, .int .u32 (sz : Int), .int .i64 X, .int .i64 N] w fun e w' => ∃ sp ng cap er, e = .returned (.tuple #[.slice sp ng cap, .int .i64 ((er : Nat) : Int)]) ∧ LastK w w' B D vs m bad av 0 sz X N 0 ng er := by
  by_cases h1 : refN X N = 26
  · exact (cread_bad D sz X N h1 w).mono fun e w' hh => ⟨none, 0, 0, 26, hh.1, last_no h hh.2 (by decide) (by decide)⟩
  · have h2 : ¬ (X < 0 ∨ N < 0 ∨ 2048 < N) := fun e => h1 (by unfold refN; rw [if_pos e])
    obtain ⟨x, hX⟩ := Int.eq_ofNat_of_zero_le (show 0 ≤ X by omega)
    obtain ⟨y, hY⟩ := Int.eq_ofNat_of_zero_le (show 0 ≤ N by omega)
    subst hX hY
    have hst := hf.top
    refine (cread_any h hf.le hB (by simp) sz x y hf.top (by omega) (by omega)).mono ?_
    rintro e w' ⟨n, er, v, hran, ⟨av', hsh, hm⟩, rfl, hres⟩
    rw [List.nil_append] at hsh
    obtain ⟨sp, ng, cap, rfl, hng⟩ : ∃ sp ng cap, v = .slice sp ng cap ∧ (er = true → ng = 0) := by
      cases er with
      | true => rw [if_pos rfl] at hres; exact ⟨none, 0, 0, hres, fun _ => rfl⟩
      | false =>
        rw [if_neg (by simp)] at hres
        obtain ⟨sp, cap, e, -⟩ := OwnB.form hres
        exact ⟨sp, _, cap, e, fun e => by cases e⟩
    refine ⟨sp, ng, cap, if er = true then 21 else 0, by cases er <;> rfl, ⟨av', _, hsh, hm, ?_⟩, fun e => hng (by cases er with | true => rfl | false => exact absurd rfl e), fun e => absurd rfl e⟩
    by_cases hle : x ≤ sz
    · have hfr : rdFr sz x = x := by unfold rdFr; omega
      have hte : rdTe sz x y = min (x + y) sz := by unfold rdTe; rw [hfr]; omega
      rw [hfr, hte] at hran ⊢
      refine ran_good hran (by omega) _ (fun j hj _ => ?_)
      have h3 := pcA_eq x j
      have e : toV 0 sz (x : Int) (y : Int) 0 (if er = true then 21 else 0) = ((min (x + y) sz : Nat) : Int) := by
        rw [toV_rd _ _ _ _ (by cases er with | true => exact .inr rfl | false => exact .inl rfl), IntWalk.wrap64_in ((x : Int) + (y : Int)) ⟨by omega, by omega⟩]
        split <;> omega
      rw [e]
      exact ⟨by omega, fun e => by omega⟩
    · have hfr : rdFr sz x = sz := by unfold rdFr; omega
      have hte : rdTe sz x y = sz := by unfold rdTe; rw [hfr]; omega
      rw [hfr, hte] at hran ⊢
      have hn : n = 0 := by
        rcases Nat.eq_zero_or_pos n with h3 | h3
        · exact h3
        · have := (hran.all 0 h3).1; have := pcA_le sz 0; omega
      have her : er = false := by
        cases er with
        | false => rfl
        | true => have := (hran.last rfl).1; have := pcA_le sz n; omega
      subst hn her
      exact AskGood.nil _ _ _ _ (by decide)
theorem last_write (h : ShW w B D vs m bad av []) (hf : Fil m sz) (hB : B ≤ w.heap.size) (X N : Int) (b : B8) (sp : Option Addr) (cap : Nat) (hc : b.length ≤ cap) (hcm : cap ≤ maxLen) (hx : X < 9223372036854775808) (hs : 0 < b.length → ∃ g o, sp = some ⟨g, o, none⟩ ∧ g < B ∧ ∀ j, j < b.length → w.cell? ⟨g, o + j, none⟩ = some (V8 (b.getD j 0))) :
    Calls Try.prog 8 #[shC D, .int .u32 (sz : Int), .int .i64 X, .slice sp b.length cap] w fun e w' => ∃ sp' ng cap' er z, e = .returned (.tuple #[.slice sp' ng cap', .int .u32 ((z : Nat) : Int), .int .i64 ((er : Nat) : Int)]) ∧ LastK w w' B D vs m bad av 1 sz X N b.length ng er := by
  by_cases h1 : refN X (b.length : Int) = 26
  · exact (cwrite_bad D sz X sp b.length cap h1 w).mono fun e w' hh => ⟨none, 0, 0, 26, 0, hh.1, last_no h hh.2 (by decide) (by decide)⟩
  · have h2 : ¬ (X < 0 ∨ (b.length : Int) < 0 ∨ 2048 < (b.length : Int)) := fun e => h1 (by unfold refN; rw [if_pos e])
    have h3 : refN X (b.length : Int) = 0 := by unfold refN; rw [if_neg h2]
    obtain ⟨x, hX⟩ := Int.eq_ofNat_of_zero_le (show 0 ≤ X by omega)
    subst hX
    by_cases h4 : 32768 < x + b.length
    · exact (cwrite_big D sz x sp b.length cap h3 h4 (by omega) w).mono fun e w' hh => ⟨none, 0, 0, 29, 0, hh.1, last_no h hh.2 (by decide) (by decide)⟩
    · by_cases h5 : b.length = 0
      · rw [h5]
        exact (cwrite_none D sz x sp cap (by omega) w).mono fun e w' hh => ⟨none, 0, 0, 0, sz, hh.1, last_same h hh.2 (by omega)⟩
      · refine (cwrite_any h hf.le hB (by simp) sz x b sp cap hf.top (by omega) (by omega) (by omega) hc hcm (fun h0 => ?_)).mono ?_
        · obtain ⟨g, o, e, hg, hcl⟩ := hs h0
          exact ⟨g, o, e, by omega, fun e => by have := h.lo; omega, fun e => by have := c_owns_lo h.q e; omega, hcl⟩
        · rintro e w' ⟨n, er, v, z, hran, ⟨av', hsh, hm⟩, rfl, hres⟩
          rw [List.nil_append] at hsh
          obtain ⟨sp', ng, cap', rfl, hng⟩ : ∃ sp ng cap, v = .slice sp ng cap ∧ (er = true → ng = 0) := by
            cases er with
            | true => rw [if_pos rfl] at hres; exact ⟨none, 0, 0, hres.1, fun _ => rfl⟩
            | false =>
              rw [if_neg (by simp)] at hres
              obtain ⟨sp9, cap9, e9, -⟩ := hres.2.rd
              exact ⟨sp9, _, cap9, e9, fun e => by cases e⟩
          refine ⟨sp', ng, cap', if er = true then 21 else 0, z, by cases er <;> rfl, ⟨av', _, hsh, hm, ?_⟩, fun e => hng (by cases er with | true => rfl | false => exact absurd rfl e), fun _ _ => by omega⟩
          refine ran_good hran (by omega) _ (fun j hj hw => ?_)
          have e : toV 1 sz (x : Int) N b.length (if er = true then 21 else 0) = ((x + b.length : Nat) : Int) := by
            unfold toV
            rw [if_neg (by decide), if_pos rfl, if_pos (by cases er <;> simp)]
            omega
          rw [e]
          have h6 := pcA_eq x j
          have h7 := pcF_lt x j
          unfold wtP at hw
          have h8 := of_decide_eq_true hw
          unfold pcT pcF at h8
          unfold pcO at *
          refine ⟨by omega, fun h => ?_⟩
          obtain ⟨-, ha, hb⟩ := h
          unfold pcF at h6
          split at h8 <;> omega
theorem last_trunc (h : ShW w B D vs m bad av []) (hf : Fil m sz) (hB : B ≤ w.heap.size) (d : Nat) (hd0 : d ≠ 0) (hd1 : d ≠ 1) (X N : Int) (bl : Nat) (hx : X < 9223372036854775808) :
    Calls Try.prog 9 #[shC D, .int .u32 (sz : Int), .int .i64 X] w fun e w' => ∃ sp' ng cap' er z, e = .returned (.tuple #[.slice sp' ng cap', .int .u32 ((z : Nat) : Int), .int .i64 ((er : Nat) : Int)]) ∧ LastK w w' B D vs m bad av d sz X N bl ng er := by
  by_cases h1 : refN X 0 = 26
  · exact (ctrunc_bad D sz X h1 w).mono fun e w' hh => ⟨none, 0, 0, 26, 0, hh.1, last_no h hh.2 (by decide) (by decide)⟩
  · have h2 : ¬ (X < 0 ∨ (0 : Int) < 0 ∨ 2048 < (0 : Int)) := fun e => h1 (by unfold refN; rw [if_pos e])
    obtain ⟨x, hX⟩ := Int.eq_ofNat_of_zero_le (show 0 ≤ X by omega)
    subst hX
    by_cases h4 : 32768 < x
    · exact (ctrunc_big D sz x h4 (by omega) w).mono fun e w' hh => ⟨none, 0, 0, 29, 0, hh.1, last_no h hh.2 (by decide) (by decide)⟩
    · by_cases h5 : sz ≤ x
      · exact (ctrunc_up D sz x (by omega) h5 w).mono fun e w' hh => ⟨none, 0, 0, 0, x, hh.1, last_same h hh.2 (by omega)⟩
      · refine (ctrunc_any h hf.le hB (by simp) sz x hf.top (by omega)).mono ?_
        rintro e w' ⟨n, er, v, z, hran, ⟨av', hsh, hm⟩, rfl, hres⟩
        rw [List.nil_append] at hsh
        have hst := hf.top
        have hte : trTe sz ≤ 32768 := by unfold trTe; omega
        obtain ⟨sp', ng, cap', rfl, hng⟩ : ∃ sp ng cap, v = .slice sp ng cap ∧ (er = true → ng = 0) := by
          cases er with
          | true => rw [if_pos rfl] at hres; exact ⟨none, 0, 0, hres.1, fun _ => rfl⟩
          | false =>
            rw [if_neg (by simp)] at hres
            obtain ⟨sp9, cap9, e9, -⟩ := hres.2.rd
            exact ⟨sp9, _, cap9, e9, fun e => by cases e⟩
        refine ⟨sp', ng, cap', if er = true then 21 else 0, z, by cases er <;> rfl, ⟨av', _, hsh, hm, ?_⟩, fun e => hng (by cases er with | true => rfl | false => exact absurd rfl e), fun _ _ => by omega⟩
        have hw0 : ∀ j, pcA x j < trTe sz → wtP (pcF x j) (pcT x (trTe sz) j) = true → j = 0 ∧ x % 512 ≠ 0 := fun j hj hw => by
          unfold wtP at hw
          have h8 := of_decide_eq_true hw
          have h6 := pcA_eq x j
          unfold pcT at h8
          unfold pcF at h8 h6
          unfold pcO at h6
          unfold trTe at *
          split at h8
          · rename_i h0; subst h0; rw [if_pos rfl] at h6; exact ⟨rfl, by omega⟩
          · rename_i h0; rw [if_neg h0] at h6; omega
        refine ran_good hran hte _ (fun j hj hw => ?_)
        obtain ⟨rfl, hr⟩ := hw0 j hj hw
        have e : toV d sz (x : Int) N bl (if er = true then 21 else 0) = (x : Int) + 1 := by
          unfold toV
          rw [if_neg hd0, if_neg hd1, if_pos (by cases er with | true => exact .inr rfl | false => exact .inl ⟨rfl, by omega, by omega⟩)]
        rw [e]
        unfold pcO
        exact ⟨by omega, fun e => hd1 e.1⟩
end
end Go.Proofs.Ythionhliokhcgaa
