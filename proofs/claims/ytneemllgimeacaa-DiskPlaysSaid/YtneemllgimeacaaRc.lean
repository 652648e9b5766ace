/- The document's disk: what it looks like in memory; block, Look, Read. -/
import Derived.Test.YtneemllgimeacaaRb
namespace Go.Proofs.Ytneemllgimeacaa
open Go.RowKit

/-- The document's disk, plain. -/
structure Rsk where
  n : Nat
  m : List (Nat × Bs)
  cache : List (Nat × Bs)
  bad : List Nat
  stuck : List Nat
  dead : Bool
  lose : Bool
  astray : Option Nat
def rcells (q : Nat) (vm vc vb vs va : Value) (t : Rsk) : List Value := [.int .i64 (t.n : Int), .pointer (some ⟨q, 0, none⟩), vm, vc, vb, vs, .bool t.dead, .bool t.lose, va]
structure RkIn (w : World) (D q : Nat) (vm vc vb vs va : Value) (S : Nat → Prop) (t : Rsk) : Prop where
  blk : Blk w D (rcells q vm vc vb vs va t) 40
  om : OwnP w 0 vm t.m
  oc : OwnP w 0 vc t.cache
  ob : OwnN w 0 vb t.bad
  os : OwnN w 0 vs t.stuck
  oa : OwnN w 0 va t.astray.toList
  sm : ∀ g, vm.ownBlock = some g → S g
  sc : ∀ g, vc.ownBlock = some g → S g
  sb : ∀ g, vb.ownBlock = some g → S g
  ss : ∀ g, vs.ownBlock = some g → S g
  sa : ∀ g, va.ownBlock = some g → S g
  ap : ∀ g, vc.ownBlock = some g → vm.ownBlock ≠ some g
  sd : S D
  sq : ¬ S q
  lt : ∀ k, S k → k < w.heap.size
  nlt : t.n ≤ 65536
def RkAt (w : World) (D q : Nat) (S : Nat → Prop) (t : Rsk) : Prop := ∃ vm vc vb vs va, RkIn w D q vm vc vb vs va S t
theorem RkIn.chg {F S : Nat → Prop} {w w' : World} {D q : Nat} {vm vc vb vs va : Value} {t : Rsk} (h : RkIn w D q vm vc vb vs va S t) (hc : Chg F w w') (hn : ∀ k, S k → ¬ F k) : RkIn w' D q vm vc vb vs va S t :=
  ⟨h.blk.chg hc (hn _ h.sd), owns_chg h.om hc (fun g hg => hn _ (h.sm g hg)), owns_chg h.oc hc (fun g hg => hn _ (h.sc g hg)), owns_chg h.ob hc (fun g hg => hn _ (h.sb g hg)), owns_chg h.os hc (fun g hg => hn _ (h.ss g hg)), owns_chg h.oa hc (fun g hg => hn _ (h.sa g hg)),
    h.sm, h.sc, h.sb, h.ss, h.sa, h.ap, h.sd, h.sq, fun k hk => Nat.lt_of_lt_of_le (h.lt k hk) hc.size, h.nlt⟩
theorem RkAt.chg {F S : Nat → Prop} {w w' : World} {D q : Nat} {t : Rsk} (h : RkAt w D q S t) (hc : Chg F w w') (hn : ∀ k, S k → ¬ F k) : RkAt w' D q S t := by
  obtain ⟨vm, vc, vb, vs, va, h⟩ := h
  exact ⟨vm, vc, vb, vs, va, h.chg hc hn⟩
theorem RkIn.c {w : World} {D q : Nat} {vm vc vb vs va : Value} {S : Nat → Prop} {t : Rsk} (h : RkIn w D q vm vc vb vs va S t) : w.cell? ⟨D, 0, none⟩ = some (.int .i64 (t.n : Int)) ∧ w.cell? ⟨D, 1, none⟩ = some (.pointer (some ⟨q, 0, none⟩)) ∧ w.cell? ⟨D, 2, none⟩ = some vm ∧ w.cell? ⟨D, 3, none⟩ = some vc ∧
    w.cell? ⟨D, 4, none⟩ = some vb ∧ w.cell? ⟨D, 5, none⟩ = some vs ∧ w.cell? ⟨D, 6, none⟩ = some (.bool t.dead) ∧ w.cell? ⟨D, 7, none⟩ = some (.bool t.lose) ∧ w.cell? ⟨D, 8, none⟩ = some va :=
  ⟨h.blk.cell rfl, h.blk.cell rfl, h.blk.cell rfl, h.blk.cell rfl, h.blk.cell rfl, h.blk.cell rfl, h.blk.cell rfl, h.blk.cell rfl, h.blk.cell rfl⟩
def rblock (t : Rsk) (a : Nat) : Bs := (lastOf t.m a).getD zeros
def rlook (t : Rsk) (a : Nat) : Option Bs :=
  if t.dead then none else if a < t.n then (if t.stuck.contains a then none else match lastOf t.cache a with | some b => some b | none => if t.bad.contains a then none else some (rblock t a)) else none
def rreadE (t : Rsk) (p : Pw) (a : Nat) : Int := if t.dead then 3 else if p.on then (if a < t.n then (if (rlook t a).isSome then 0 else 6) else 1) else 3
def rreadB (t : Rsk) (p : Pw) (a : Nat) : Bs := if t.dead then [] else if p.on then (if a < t.n then (rlook t a).getD [] else []) else []
structure Small (t : Rsk) : Prop where
  m : t.m.length < 1000000
  c : t.cache.length < 1000000
  b : t.bad.length < 1000000
  s : t.stuck.length < 1000000
theorem zeros_str : bstr zeros = bstr (List.replicate 512 0) := rfl
set_option maxRecDepth 100000 in
set_option maxHeartbeats 1000000 in
theorem rblock_any (D q : Nat) (S : Nat → Prop) (t : Rsk) (a : Nat) (ha : a < 65536) (w : World) (h : RkAt w D q S t) (hs : Small t) : Calls Try.prog 60 #[.pointer (some ⟨D, 0, none⟩), .int .u16 (a : Int)] w fun e w' => e = .returned (.string (bstr (rblock t a))) ∧ Below w.heap.size w w' := by
  obtain ⟨i0, hi, hz0, hz1, hz2⟩ := info_parts infoB
  obtain ⟨vm, vc, vb, vs, va, h⟩ := h
  obtain ⟨-, -, c2, -⟩ := h.c
  have H := Lib.hid h
  have HS := Lib.hid hs
  clear h hs
  unfold rblock
  obtain ⟨lo, hlo⟩ : ∃ lo, lastOf t.m a = lo := ⟨_, rfl⟩
  rw [hlo]
  have HLO := Lib.hid hlo
  clear hlo
  cases lo with
  | some b =>
    go_enter Try.func60, Try.ntmps60
    go_wp2_with (first | (go_at_call 59; refine (rlast_any t.m vm a ha HS.out.m _ (own_ps H.out.om)).mono ?_; rw [HLO.out]; rintro e w' ⟨rfl, rfl⟩) | fail)
    go_ret
    exact ⟨rfl, Below.refl _ _⟩
  | none =>
    go_enter Try.func60, Try.ntmps60
    go_wp2_with (first | (go_at_call 59; refine (rlast_any t.m vm a ha HS.out.m _ (own_ps H.out.om)).mono ?_; rw [HLO.out]; rintro e w' ⟨rfl, rfl⟩) | (at_make; refine wpList_makeLC rfl _ _ 42 rfl 5 i0 (.int .u8 0) Try.underlying42 hi hz0 rfl hz1 .i64 .i64 _ _ 512 512 rfl rfl rfl rfl (Nat.le_refl _) (by rw [hz2]; omega) (by unfold maxLen; omega) ?_; intro w1 hb1 hb2; have hcv : (convert 42 9 (.slice (some ⟨w.heap.size, 0, none⟩) 512 512)).run Try.prog w1 = .ok (.string (bstr zeros)) w1 := (by have hz : Blk w1 w.heap.size (zeros.map V8) 5 := (by rw [show zeros.map V8 = List.replicate 512 (Value.int .u8 0) from (by simp [zeros, N8])]; exact hb1); exact conv_str (l := zeros) (cap := 512) hz.srcB); have HB2 := Lib.hid hb2; clear hb1 hb2) | fail)
    go_ret
    exact ⟨rfl, HB2.out⟩
set_option maxRecDepth 100000 in
set_option maxHeartbeats 1000000 in
theorem rlook_any (D q : Nat) (S : Nat → Prop) (t : Rsk) (a : Nat) (ha : a < 65536) (w : World) (h : RkAt w D q S t) (hs : Small t) : Calls Try.prog 43 #[.pointer (some ⟨D, 0, none⟩), .int .u16 (a : Int)] w fun e w' => e = .returned (.tuple #[.string (bstr ((rlook t a).getD [])), .bool (rlook t a).isSome]) ∧ Below w.heap.size w w' := by
  have HK := Lib.hid h
  obtain ⟨vm, vc, vb, vs, va, h⟩ := h
  obtain ⟨c0, -, -, c3, c4, c5, c6, -⟩ := h.c
  have hn := h.nlt
  have H := Lib.hid h
  have HS := Lib.hid hs
  have wa := IntWalk.i64_in (a : Int) (by omega)
  clear h hs
  unfold rlook
  by_cases hd : t.dead = true
  · rw [hd] at c6 ⊢
    simp only [if_true]
    go_enter Try.func43, Try.ntmps43
    go_wp2_with fail
    go_ret2
    exact ⟨rfl, Below.refl _ _⟩
  · have hd' : t.dead = false := by simpa using hd
    rw [hd'] at c6 ⊢
    simp only [Bool.false_eq_true, if_false]
    clear hd
    by_cases hlt : a < t.n
    · rw [if_pos hlt]
      have hge : ¬ ((t.n : Int) ≤ (a : Int)) := by omega
      clear hlt
      by_cases hst : t.stuck.contains a = true
      · rw [if_pos hst]
        go_enter Try.func43, Try.ntmps43
        go_wp2_with (first | (go_at_call 58; refine (rhas_any t.stuck vs a ha HS.out.s _ (own_ns H.out.os)).mono ?_; rw [hst]; rintro e w' ⟨rfl, rfl⟩) | fail)
        go_ret2
        exact ⟨rfl, Below.refl _ _⟩
      · have hst' : t.stuck.contains a = false := by simpa using hst
        rw [hst']
        simp only [Bool.false_eq_true, if_false]
        clear hst
        obtain ⟨lo, hlo⟩ : ∃ lo, lastOf t.cache a = lo := ⟨_, rfl⟩
        rw [hlo]
        have HLO := Lib.hid hlo
        clear hlo
        cases lo with
        | some b =>
          go_enter Try.func43, Try.ntmps43
          go_wp2_with (first | (go_at_call 58; refine (rhas_any t.stuck vs a ha HS.out.s _ (own_ns H.out.os)).mono ?_; rw [hst']; rintro e w' ⟨rfl, rfl⟩) | (go_at_call 59; refine (rlast_any t.cache vc a ha HS.out.c _ (own_ps H.out.oc)).mono ?_; rw [HLO.out]; rintro e w' ⟨rfl, rfl⟩) | fail)
          go_ret2
          exact ⟨rfl, Below.refl _ _⟩
        | none =>
          by_cases hb : t.bad.contains a = true
          · rw [hb]
            simp only [if_true]
            go_enter Try.func43, Try.ntmps43
            go_wp2_with fail
            refine (rhas_any t.stuck vs a ha HS.out.s _ (own_ns H.out.os)).mono ?_
            rw [hst']
            rintro e w' ⟨rfl, rfl⟩
            go_wp2_with fail
            refine (rlast_any t.cache vc a ha HS.out.c _ (own_ps H.out.oc)).mono ?_
            rw [HLO.out]
            rintro e w' ⟨rfl, rfl⟩
            go_wp2_with fail
            refine (rhas_any t.bad vb a ha HS.out.b _ (own_ns H.out.ob)).mono ?_
            rw [hb]
            rintro e w' ⟨rfl, rfl⟩
            go_wp2_with fail
            go_ret2
            exact ⟨rfl, Below.refl _ _⟩
          · have hb' : t.bad.contains a = false := by simpa using hb
            rw [hb']
            simp only [Bool.false_eq_true, if_false]
            go_enter Try.func43, Try.ntmps43
            go_wp2_with fail
            refine (rhas_any t.stuck vs a ha HS.out.s _ (own_ns H.out.os)).mono ?_
            rw [hst']
            rintro e w' ⟨rfl, rfl⟩
            go_wp2_with fail
            refine (rlast_any t.cache vc a ha HS.out.c _ (own_ps H.out.oc)).mono ?_
            rw [HLO.out]
            rintro e w' ⟨rfl, rfl⟩
            go_wp2_with fail
            refine (rhas_any t.bad vb a ha HS.out.b _ (own_ns H.out.ob)).mono ?_
            rw [hb']
            rintro e w' ⟨rfl, rfl⟩
            go_wp2_with fail
            refine (rblock_any D q S t a ha _ HK.out HS.out).mono ?_
            rintro e w1 ⟨rfl, hw⟩
            have HW := Lib.hid hw
            clear hw
            go_wp2_with fail
            go_ret2
            exact ⟨rfl, HW.out⟩
    · rw [if_neg hlt]
      have hge : (t.n : Int) ≤ (a : Int) := by omega
      clear hlt
      go_enter Try.func43, Try.ntmps43
      go_wp2_with fail
      go_ret2
      exact ⟨rfl, Below.refl _ _⟩
set_option maxRecDepth 100000 in
set_option maxHeartbeats 1000000 in
theorem rread_any (D q : Nat) (S : Nat → Prop) (t : Rsk) (p : Pw) (a : Nat) (ha : a < 65536) (w : World) (h : RkAt w D q S t) (hp : RpAt w q p) (hs : Small t) : Calls Try.prog 38 #[.pointer (some ⟨D, 0, none⟩), .int .u16 (a : Int)] w fun e w' => e = .returned (.tuple #[.string (bstr (rreadB t p a)), .int .i64 (rreadE t p a)]) ∧ Below w.heap.size w w' := by
  have HK := Lib.hid h
  obtain ⟨vm, vc, vb, vs, va, h⟩ := h
  obtain ⟨c0, c1, -, -, -, -, c6, -⟩ := h.c
  have hn := h.nlt
  have HS := Lib.hid hs
  have wa := IntWalk.i64_in (a : Int) (by omega)
  have d0 : w.cell? ⟨q, 0, none⟩ = some (.bool (!p.on)) := hp.blk.cell rfl
  clear h hs hp
  unfold rreadB rreadE
  by_cases hd : t.dead = true
  · rw [hd] at c6 ⊢
    simp only [if_true]
    go_enter Try.func38, Try.ntmps38
    go_wp2_with fail
    go_ret2
    exact ⟨rfl, Below.refl _ _⟩
  · have hd' : t.dead = false := by simpa using hd
    rw [hd'] at c6 ⊢
    simp only [Bool.false_eq_true, if_false]
    clear hd
    obtain ⟨on, fu⟩ := p
    cases on
    · simp only [Bool.not_false] at d0
      simp only [Bool.false_eq_true, if_false]
      go_enter Try.func38, Try.ntmps38
      go_wp2_with fail
      go_ret2
      exact ⟨rfl, Below.refl _ _⟩
    · simp only [Bool.not_true] at d0
      simp only [if_true]
      by_cases hlt : a < t.n
      · rw [if_pos hlt, if_pos hlt]
        have hge : ¬ ((t.n : Int) ≤ (a : Int)) := by omega
        clear hlt
        obtain ⟨lk, hlk⟩ : ∃ lk, rlook t a = lk := ⟨_, rfl⟩
        rw [hlk]
        have HLK := Lib.hid hlk
        clear hlk
        cases lk with
        | none =>
          go_enter Try.func38, Try.ntmps38
          go_wp2_with (first | (go_at_call 43; refine (rlook_any D q S t a ha _ HK.out HS.out).mono ?_; rw [HLK.out]; rintro e w1 ⟨rfl, hw⟩; have HW := Lib.hid hw; clear hw) | fail)
          go_ret2
          exact ⟨rfl, HW.out⟩
        | some b =>
          go_enter Try.func38, Try.ntmps38
          go_wp2_with (first | (go_at_call 43; refine (rlook_any D q S t a ha _ HK.out HS.out).mono ?_; rw [HLK.out]; rintro e w1 ⟨rfl, hw⟩; have HW := Lib.hid hw; clear hw) | fail)
          go_ret2
          exact ⟨rfl, HW.out⟩
      · rw [if_neg hlt, if_neg hlt]
        have hge : (t.n : Int) ≤ (a : Int) := by omega
        clear hlt
        go_enter Try.func38, Try.ntmps38
        go_wp2_with fail
        go_ret2
        exact ⟨rfl, Below.refl _ _⟩
end Go.Proofs.Ytneemllgimeacaa
