/- The document's disk: what it looks like in memory; block, Look, Read. -/
import Derived.Test.YtmgagalhpkieoaaGreatDoorM08
namespace Go.Proofs.YtmgagalhpkieoaaGreatDoor
open Go.RowKit

structure Rsk where
  n : Nat
  m : List (Nat × d_Bs)
  cache : List (Nat × d_Bs)
  bad : List Nat
  stuck : List Nat
  dead : Bool
  lose : Bool
  astray : Option Nat
def rcells (q : Nat) (vm vc vb vs va : Value) (t : Rsk) : List Value := [.int .i64 (t.n : Int), .pointer (some ⟨q, 0, none⟩), vm, vc, vb, vs, .bool t.dead, .bool t.lose, va]
structure RkIn (w : World) (D q : Nat) (vm vc vb vs va : Value) (S : Nat → Prop) (t : Rsk) : Prop where
  blk : Blk w D (rcells q vm vc vb vs va t) 49
  om : OwnP w 0 vm t.m
  oc : OwnP w 0 vc t.cache
  ob : OwnN w 0 vb t.bad
  os : OwnN w 0 vs t.stuck
  oa : OwnN w 0 va t.astray.toList
  sm : ∀ g, vm.ownBlock = some g → S g
  sc : ∀ g, vc.ownBlock = some g → S g
  sb : ∀ g, vb.ownBlock = some g → S g
  ss : ∀ g, vs.ownBlock = some g → S g
  sa : ∀ g, va.ownBlock = some g → S g
  ap : ∀ g, vc.ownBlock = some g → vm.ownBlock ≠ some g
  sd : S D
  sq : ¬ S q
  lt : ∀ k, S k → k < w.heap.size
  nlt : t.n ≤ 65536
def RkAt (w : World) (D q : Nat) (S : Nat → Prop) (t : Rsk) : Prop := ∃ vm vc vb vs va, RkIn w D q vm vc vb vs va S t
theorem RkIn.chg {F S : Nat → Prop} {w w' : World} {D q : Nat} {vm vc vb vs va : Value} {t : Rsk} (h : RkIn w D q vm vc vb vs va S t) (hc : Chg F w w') (hn : ∀ k, S k → ¬ F k) : RkIn w' D q vm vc vb vs va S t :=
  ⟨h.blk.chg hc (hn _ h.sd), owns_chg h.om hc (fun g hg => hn _ (h.sm g hg)), owns_chg h.oc hc (fun g hg => hn _ (h.sc g hg)), owns_chg h.ob hc (fun g hg => hn _ (h.sb g hg)), owns_chg h.os hc (fun g hg => hn _ (h.ss g hg)), owns_chg h.oa hc (fun g hg => hn _ (h.sa g hg)),
    h.sm, h.sc, h.sb, h.ss, h.sa, h.ap, h.sd, h.sq, fun k hk => Nat.lt_of_lt_of_le (h.lt k hk) hc.size, h.nlt⟩
theorem RkAt.chg {F S : Nat → Prop} {w w' : World} {D q : Nat} {t : Rsk} (h : RkAt w D q S t) (hc : Chg F w w') (hn : ∀ k, S k → ¬ F k) : RkAt w' D q S t := by
  obtain ⟨vm, vc, vb, vs, va, h⟩ := h
  exact ⟨vm, vc, vb, vs, va, h.chg hc hn⟩
theorem RkIn.c {w : World} {D q : Nat} {vm vc vb vs va : Value} {S : Nat → Prop} {t : Rsk} (h : RkIn w D q vm vc vb vs va S t) : w.cell? ⟨D, 0, none⟩ = some (.int .i64 (t.n : Int)) ∧ w.cell? ⟨D, 1, none⟩ = some (.pointer (some ⟨q, 0, none⟩)) ∧ w.cell? ⟨D, 2, none⟩ = some vm ∧ w.cell? ⟨D, 3, none⟩ = some vc ∧
    w.cell? ⟨D, 4, none⟩ = some vb ∧ w.cell? ⟨D, 5, none⟩ = some vs ∧ w.cell? ⟨D, 6, none⟩ = some (.bool t.dead) ∧ w.cell? ⟨D, 7, none⟩ = some (.bool t.lose) ∧ w.cell? ⟨D, 8, none⟩ = some va :=
  ⟨h.blk.cell rfl, h.blk.cell rfl, h.blk.cell rfl, h.blk.cell rfl, h.blk.cell rfl, h.blk.cell rfl, h.blk.cell rfl, h.blk.cell rfl, h.blk.cell rfl⟩
def rblock (t : Rsk) (a : Nat) : d_Bs := (lastOf t.m a).getD zeros
def rlook (t : Rsk) (a : Nat) : Option d_Bs :=
  if t.dead then none else if a < t.n then (if t.stuck.contains a then none else match lastOf t.cache a with | some b => some b | none => if t.bad.contains a then none else some (rblock t a)) else none
def rreadE (t : Rsk) (p : Pw) (a : Nat) : Int := if t.dead then 3 else if p.on then (if a < t.n then (if (rlook t a).isSome then 0 else 6) else 1) else 3
def rreadB (t : Rsk) (p : Pw) (a : Nat) : d_Bs := if t.dead then [] else if p.on then (if a < t.n then (rlook t a).getD [] else []) else []
structure Small (t : Rsk) : Prop where
  m : t.m.length < 1000000
  c : t.cache.length < 1000000
  b : t.bad.length < 1000000
  s : t.stuck.length < 1000000
set_option maxRecDepth 100000 in
set_option maxHeartbeats 1000000 in
theorem rblock_any (D q : Nat) (S : Nat → Prop) (t : Rsk) (a : Nat) (ha : a < 65536) (w : World) (h : RkAt w D q S t) (hs : Small t) : Calls Tryz.prog 97 #[.pointer (some ⟨D, 0, none⟩), .int .u16 (a : Int)] w fun e w' => e = .returned (.string (bstr (rblock t a))) ∧ Below w.heap.size w w' := by
  obtain ⟨i0, hi, hz0, hz1, hz2⟩ := info_parts infoB
  obtain ⟨vm, vc, vb, vs, va, h⟩ := h
  obtain ⟨-, -, c2, -⟩ := h.c
  have H := Lib.hid h
  have HS := Lib.hid hs
  clear h hs
  unfold rblock
  obtain ⟨lo, hlo⟩ : ∃ lo, lastOf t.m a = lo := ⟨_, rfl⟩
  rw [hlo]
  have HLO := Lib.hid hlo
  clear hlo
  cases lo with
  | some b =>
    go_enter Tryz.func97, Tryz.ntmps97
    go_wp2_with (first | (go_at_call 96; refine (rlast_any t.m vm a ha HS.out.m _ (own_ps H.out.om)).mono ?_; rw [HLO.out]; rintro e w' ⟨rfl, rfl⟩) | fail)
    go_ret
    exact ⟨rfl, Below.refl _ _⟩
  | none =>
    go_enter Tryz.func97, Tryz.ntmps97
    go_wp2_with (first | (go_at_call 96; refine (rlast_any t.m vm a ha HS.out.m _ (own_ps H.out.om)).mono ?_; rw [HLO.out]; rintro e w' ⟨rfl, rfl⟩) | (at_make; refine wpList_makeLC rfl _ _ 59 rfl 5 i0 (.int .u8 0) Tryz.underlying59 hi hz0 rfl hz1 .i64 .i64 _ _ 512 512 rfl rfl rfl rfl (Nat.le_refl _) (by rw [hz2]; omega) (by unfold maxLen; omega) ?_; intro w1 hb1 hb2; have hcv : (convert 59 9 (.slice (some ⟨w.heap.size, 0, none⟩) 512 512)).run Tryz.prog w1 = .ok (.string (bstr zeros)) w1 := (by have hz : Blk w1 w.heap.size (zeros.map V8) 5 := (by rw [show zeros.map V8 = List.replicate 512 (Value.int .u8 0) from (by simp [zeros, N8])]; exact hb1); exact conv_str (l := zeros) (cap := 512) hz.srcB); have HB2 := Lib.hid hb2; clear hb1 hb2) | fail)
    go_ret
    exact ⟨rfl, HB2.out⟩
set_option maxRecDepth 100000 in
set_option maxHeartbeats 1000000 in
theorem rlook_any (D q : Nat) (S : Nat → Prop) (t : Rsk) (a : Nat) (ha : a < 65536) (w : World) (h : RkAt w D q S t) (hs : Small t) : Calls Tryz.prog 60 #[.pointer (some ⟨D, 0, none⟩), .int .u16 (a : Int)] w fun e w' => e = .returned (.tuple #[.string (bstr ((rlook t a).getD [])), .bool (rlook t a).isSome]) ∧ Below w.heap.size w w' := by
  have HK := Lib.hid h
  obtain ⟨vm, vc, vb, vs, va, h⟩ := h
  obtain ⟨c0, -, -, c3, c4, c5, c6, -⟩ := h.c
  have hn := h.nlt
  have H := Lib.hid h
  have HS := Lib.hid hs
  have wa := IntWalk.i64_in (a : Int) (by omega)
  clear h hs
  unfold rlook
  by_cases hd : t.dead = true
  · rw [hd] at c6 ⊢
    simp only [if_true]
    go_enter Tryz.func60, Tryz.ntmps60
    go_wp2_with fail
    go_ret2
    exact ⟨rfl, Below.refl _ _⟩
  · have hd' : t.dead = false := by simpa using hd
    rw [hd'] at c6 ⊢
    simp only [Bool.false_eq_true, if_false]
    clear hd
    by_cases hlt : a < t.n
    · rw [if_pos hlt]
      have hge : ¬ ((t.n : Int) ≤ (a : Int)) := by omega
      clear hlt
      by_cases hst : t.stuck.contains a = true
      · rw [if_pos hst]
        go_enter Tryz.func60, Tryz.ntmps60
        go_wp2_with (first | (go_at_call 95; refine (rhas_any t.stuck vs a ha HS.out.s _ (own_ns H.out.os)).mono ?_; rw [hst]; rintro e w' ⟨rfl, rfl⟩) | fail)
        go_ret2
        exact ⟨rfl, Below.refl _ _⟩
      · have hst' : t.stuck.contains a = false := by simpa using hst
        rw [hst']
        simp only [Bool.false_eq_true, if_false]
        clear hst
        obtain ⟨lo, hlo⟩ : ∃ lo, lastOf t.cache a = lo := ⟨_, rfl⟩
        rw [hlo]
        have HLO := Lib.hid hlo
        clear hlo
        cases lo with
        | some b =>
          go_enter Tryz.func60, Tryz.ntmps60
          go_wp2_with (first | (go_at_call 95; refine (rhas_any t.stuck vs a ha HS.out.s _ (own_ns H.out.os)).mono ?_; rw [hst']; rintro e w' ⟨rfl, rfl⟩) | (go_at_call 96; refine (rlast_any t.cache vc a ha HS.out.c _ (own_ps H.out.oc)).mono ?_; rw [HLO.out]; rintro e w' ⟨rfl, rfl⟩) | fail)
          go_ret2
          exact ⟨rfl, Below.refl _ _⟩
        | none =>
          by_cases hb : t.bad.contains a = true
          · rw [hb]
            simp only [if_true]
            go_enter Tryz.func60, Tryz.ntmps60
            go_wp2_with fail
            refine (rhas_any t.stuck vs a ha HS.out.s _ (own_ns H.out.os)).mono ?_
            rw [hst']
            rintro e w' ⟨rfl, rfl⟩
            go_wp2_with fail
            refine (rlast_any t.cache vc a ha HS.out.c _ (own_ps H.out.oc)).mono ?_
            rw [HLO.out]
            rintro e w' ⟨rfl, rfl⟩
            go_wp2_with fail
            refine (rhas_any t.bad vb a ha HS.out.b _ (own_ns H.out.ob)).mono ?_
            rw [hb]
            rintro e w' ⟨rfl, rfl⟩
            go_wp2_with fail
            go_ret2
            exact ⟨rfl, Below.refl _ _⟩
          · have hb' : t.bad.contains a = false := by simpa using hb
            rw [hb']
            simp only [Bool.false_eq_true, if_false]
            go_enter Tryz.func60, Tryz.ntmps60
            go_wp2_with fail
            refine (rhas_any t.stuck vs a ha HS.out.s _ (own_ns H.out.os)).mono ?_
            rw [hst']
            rintro e w' ⟨rfl, rfl⟩
            go_wp2_with fail
            refine (rlast_any t.cache vc a ha HS.out.c _ (own_ps H.out.oc)).mono ?_
            rw [HLO.out]
            rintro e w' ⟨rfl, rfl⟩
            go_wp2_with fail
            refine (rhas_any t.bad vb a ha HS.out.b _ (own_ns H.out.ob)).mono ?_
            rw [hb']
            rintro e w' ⟨rfl, rfl⟩
            go_wp2_with fail
            refine (rblock_any D q S t a ha _ HK.out HS.out).mono ?_
            rintro e w1 ⟨rfl, hw⟩
            have HW := Lib.hid hw
            clear hw
            go_wp2_with fail
            go_ret2
            exact ⟨rfl, HW.out⟩
    · rw [if_neg hlt]
      have hge : (t.n : Int) ≤ (a : Int) := by omega
      clear hlt
      go_enter Tryz.func60, Tryz.ntmps60
      go_wp2_with fail
      go_ret2
      exact ⟨rfl, Below.refl _ _⟩
set_option maxRecDepth 100000 in
set_option maxHeartbeats 1000000 in
theorem rread_any (D q : Nat) (S : Nat → Prop) (t : Rsk) (p : Pw) (a : Nat) (ha : a < 65536) (w : World) (h : RkAt w D q S t) (hp : RpAt w q p) (hs : Small t) : Calls Tryz.prog 87 #[.pointer (some ⟨D, 0, none⟩), .int .u16 (a : Int)] w fun e w' => e = .returned (.tuple #[.string (bstr (rreadB t p a)), .int .i64 (rreadE t p a)]) ∧ Below w.heap.size w w' := by
  have HK := Lib.hid h
  obtain ⟨vm, vc, vb, vs, va, h⟩ := h
  obtain ⟨c0, c1, -, -, -, -, c6, -⟩ := h.c
  have hn := h.nlt
  have HS := Lib.hid hs
  have wa := IntWalk.i64_in (a : Int) (by omega)
  have d0 : w.cell? ⟨q, 0, none⟩ = some (.bool (!p.on)) := hp.blk.cell rfl
  clear h hs hp
  unfold rreadB rreadE
  by_cases hd : t.dead = true
  · rw [hd] at c6 ⊢
    simp only [if_true]
    go_enter Tryz.func87, Tryz.ntmps87
    go_wp2_with fail
    go_ret2
    exact ⟨rfl, Below.refl _ _⟩
  · have hd' : t.dead = false := by simpa using hd
    rw [hd'] at c6 ⊢
    simp only [Bool.false_eq_true, if_false]
    clear hd
    obtain ⟨on, fu⟩ := p
    cases on
    · simp only [Bool.not_false] at d0
      simp only [Bool.false_eq_true, if_false]
      go_enter Tryz.func87, Tryz.ntmps87
      go_wp2_with fail
      go_ret2
      exact ⟨rfl, Below.refl _ _⟩
    · simp only [Bool.not_true] at d0
      simp only [if_true]
      by_cases hlt : a < t.n
      · rw [if_pos hlt, if_pos hlt]
        have hge : ¬ ((t.n : Int) ≤ (a : Int)) := by omega
        clear hlt
        obtain ⟨lk, hlk⟩ : ∃ lk, rlook t a = lk := ⟨_, rfl⟩
        rw [hlk]
        have HLK := Lib.hid hlk
        clear hlk
        cases lk with
        | none =>
          go_enter Tryz.func87, Tryz.ntmps87
          go_wp2_with (first | (go_at_call 60; refine (rlook_any D q S t a ha _ HK.out HS.out).mono ?_; rw [HLK.out]; rintro e w1 ⟨rfl, hw⟩; have HW := Lib.hid hw; clear hw) | fail)
          go_ret2
          exact ⟨rfl, HW.out⟩
        | some b =>
          go_enter Tryz.func87, Tryz.ntmps87
          go_wp2_with (first | (go_at_call 60; refine (rlook_any D q S t a ha _ HK.out HS.out).mono ?_; rw [HLK.out]; rintro e w1 ⟨rfl, hw⟩; have HW := Lib.hid hw; clear hw) | fail)
          go_ret2
          exact ⟨rfl, HW.out⟩
      · rw [if_neg hlt, if_neg hlt]
        have hge : (t.n : Int) ≤ (a : Int) := by omega
        clear hlt
        go_enter Tryz.func87, Tryz.ntmps87
        go_wp2_with fail
        go_ret2
        exact ⟨rfl, Below.refl _ _⟩
end Go.Proofs.YtmgagalhpkieoaaGreatDoor
/- The document's disk: one of its cells is put anew. -/
namespace Go.Proofs.YtmgagalhpkieoaaGreatDoor
open Go.RowKit

theorem OwnP.nd {w : World} {B D : Nat} {v : Value} {l : List (Nat × d_Bs)} {cs : List Value} (h : OwnP w B v l) (hb : Blk w D cs 49) : ∀ g, v.ownBlock = some g → g ≠ D := fun g hg e => by
  obtain ⟨cs', hb'⟩ := owns_blk h hg
  subst e
  exact absurd (hb'.same hb) (by decide)
theorem OwnN.nd {w : World} {B D : Nat} {v : Value} {l : List Nat} {cs : List Value} (h : OwnN w B v l) (hb : Blk w D cs 49) : ∀ g, v.ownBlock = some g → g ≠ D := fun g hg e => by
  obtain ⟨cs', hb'⟩ := owns_blk h hg
  subst e
  exact absurd (hb'.same hb) (by decide)
theorem ext_own {S : Nat → Prop} {w w' : World} {v : Value} {n : Nat} {e B k : Nat} {xs : List Value} (h : w'.ownsRow B e k v n xs) (hs : ∀ g, v.ownBlock = some g → S g ∨ w.heap.size ≤ g) : ∀ g, v.ownBlock = some g → Ext S w w' g := fun g hg => by
  rcases hs g hg with h1 | h1
  · exact .inl h1
  · exact .inr ⟨h1, (h.lt g hg).2⟩
theorem RkIn.put {w Z : World} {D q j : Nat} {u vm vc vb vs va vm' vc' vb' vs' va' : Value} {S F : Nat → Prop} {t t' : Rsk} (h : RkIn w D q vm vc vb vs va S t) (hq : q < w.heap.size) (hz : Chg F w Z) (hFD : ¬ F D)
    (hcells : (rcells q vm vc vb vs va t).set j u = rcells q vm' vc' vb' vs' va' t') (hn : t'.n ≤ 65536)
    (om : OwnP Z 0 vm' t'.m) (oc : OwnP Z 0 vc' t'.cache) (ob : OwnN Z 0 vb' t'.bad) (os : OwnN Z 0 vs' t'.stuck) (oa : OwnN Z 0 va' t'.astray.toList)
    (sm : ∀ g, vm'.ownBlock = some g → S g ∨ w.heap.size ≤ g) (sc : ∀ g, vc'.ownBlock = some g → S g ∨ w.heap.size ≤ g) (sb : ∀ g, vb'.ownBlock = some g → S g ∨ w.heap.size ≤ g) (ss : ∀ g, vs'.ownBlock = some g → S g ∨ w.heap.size ≤ g) (sa : ∀ g, va'.ownBlock = some g → S g ∨ w.heap.size ≤ g)
    (ap : ∀ g, vc'.ownBlock = some g → vm'.ownBlock ≠ some g) :
    RkIn (Z.setCell ⟨D, j, none⟩ u) D q vm' vc' vb' vs' va' (Ext S w (Z.setCell ⟨D, j, none⟩ u)) t' ∧ Chg (fun k => F k ∨ k = D) w (Z.setCell ⟨D, j, none⟩ u) := by
  have hb : Blk Z D (rcells q vm vc vb vs va t) 49 := h.blk.chg hz hFD
  have hc1 : Chg (fun k => k = D) Z (Z.setCell ⟨D, j, none⟩ u) := d_chg1 j u
  have hc : Chg (fun k => F k ∨ k = D) w (Z.setCell ⟨D, j, none⟩ u) := (hz.mono (fun _ h => .inl h)).trans hc1 (fun i hi => .inl (.inr hi))
  have om1 := owns_chg om hc1 (om.nd hb)
  have oc1 := owns_chg oc hc1 (oc.nd hb)
  have ob1 := owns_chg ob hc1 (ob.nd hb)
  have os1 := owns_chg os hc1 (os.nd hb)
  have oa1 := owns_chg oa hc1 (oa.nd hb)
  refine ⟨⟨?_, om1, oc1, ob1, os1, oa1, ext_own om1 sm, ext_own oc1 sc, ext_own ob1 sb, ext_own os1 ss, ext_own oa1 sa, ap, .inl h.sd, ?_, ?_, hn⟩, hc⟩
  · rw [← hcells]
    exact hb.set j u
  · rintro (hh | hh)
    · exact h.sq hh
    · omega
  · rintro k (hk | hk)
    · exact Nat.lt_of_lt_of_le (h.lt k hk) hc.size
    · exact hk.2
theorem RkIn.mono {w : World} {D q : Nat} {vm vc vb vs va : Value} {S S' : Nat → Prop} {t : Rsk} (h : RkIn w D q vm vc vb vs va S t) (hs : ∀ k, S k → S' k) (hq : ¬ S' q) (hl : ∀ k, S' k → k < w.heap.size) : RkIn w D q vm vc vb vs va S' t :=
  ⟨h.blk, h.om, h.oc, h.ob, h.os, h.oa, fun g hg => hs g (h.sm g hg), fun g hg => hs g (h.sc g hg), fun g hg => hs g (h.sb g hg), fun g hg => hs g (h.ss g hg), fun g hg => hs g (h.sa g hg), h.ap, hs D h.sd, hq, hl, h.nlt⟩
theorem RkAt.mono {w : World} {D q : Nat} {S S' : Nat → Prop} {t : Rsk} (h : RkAt w D q S t) (hs : ∀ k, S k → S' k) (hq : ¬ S' q) (hl : ∀ k, S' k → k < w.heap.size) : RkAt w D q S' t := by
  obtain ⟨vm, vc, vb, vs, va, h⟩ := h
  exact ⟨vm, vc, vb, vs, va, h.mono hs hq hl⟩
theorem RkAt.lt {w : World} {D q : Nat} {S : Nat → Prop} {t : Rsk} (h : RkAt w D q S t) : ∀ k, S k → k < w.heap.size := by obtain ⟨_, _, _, _, _, h⟩ := h; exact h.lt
theorem RkAt.nq {w : World} {D q : Nat} {S : Nat → Prop} {t : Rsk} (h : RkAt w D q S t) : ¬ S q := by obtain ⟨_, _, _, _, _, h⟩ := h; exact h.sq
theorem RkAt.sd {w : World} {D q : Nat} {S : Nat → Prop} {t : Rsk} (h : RkAt w D q S t) : S D := by obtain ⟨_, _, _, _, _, h⟩ := h; exact h.sd
theorem RkAt.ext {w w0 : World} {D q : Nat} {S : Nat → Prop} {t : Rsk} (h : RkAt w D q S t) (hq : q < w0.heap.size) : RkAt w D q (Ext S w0 w) t :=
  h.mono (fun _ h => .inl h) (fun hh => by rcases hh with hh | hh; exact h.nq hh; omega) (fun k hk => by rcases hk with hk | hk; exact h.lt k hk; exact hk.2)
theorem RkAt.ext2 {w w1 w0 : World} {D q : Nat} {S : Nat → Prop} {t : Rsk} (h : RkAt w D q (Ext S w1 w) t) (h01 : w0.heap.size ≤ w1.heap.size) (hq : q < w0.heap.size) : RkAt w D q (Ext S w0 w) t :=
  h.mono (fun k hk => by rcases hk with hk | hk; exact .inl hk; exact .inr ⟨by omega, hk.2⟩) (fun hh => by
    rcases hh with hh | hh
    · exact h.nq (.inl hh)
    · omega) (fun k hk => by
    rcases hk with hk | hk
    · exact h.lt k (.inl hk)
    · exact hk.2)
theorem own_new {w0 w : World} {e B k n : Nat} {v : Value} {xs : List Value} {S : Nat → Prop} (h : w.ownsRow B e k v n xs) (hB : w0.heap.size ≤ B) : ∀ g, v.ownBlock = some g → S g ∨ w0.heap.size ≤ g := fun g hg => .inr (Nat.le_trans hB (h.lt g hg).1)
theorem not_old {w w' : World} {e B k n e' B' k' n' : Nat} {v v' : Value} {xs xs' : List Value} (h : w.ownsRow B e k v n xs) (h' : w'.ownsRow B' e' k' v' n' xs') (hB : w.heap.size ≤ B') : ∀ g, v.ownBlock = some g → v'.ownBlock ≠ some g := fun g hg e => by
  have h1 := (h.lt g hg).2
  have h2 := (h'.lt g e).1
  omega
theorem own_lt {w w' : World} {e B k n e' B' k' n' : Nat} {v v' : Value} {xs xs' : List Value} (h : w.ownsRow B e k v n xs) (h' : w'.ownsRow B' e' k' v' n' xs') (hB : w.heap.size ≤ B') : ∀ g, v'.ownBlock = some g → v.ownBlock ≠ some g := fun g hg e => not_old h h' hB g e hg
theorem own0 {w : World} {e B k n : Nat} {v : Value} {xs : List Value} (h : w.ownsRow B e k v n xs) : w.ownsRow 0 e k v n xs := ⟨h.1, h.2.imp id fun ⟨g, cap, cur, h1, _, h3⟩ => ⟨g, cap, cur, h1, Nat.zero_le _, h3⟩⟩
theorem own_slice3 {w : World} {B e k n : Nat} {v : Value} {xs : List Value} (h : w.ownsRow B e k v n xs) : ∃ sp n c, v = .slice sp n c := by
  obtain ⟨sp, c, e⟩ := own_slice h
  exact ⟨sp, n, c, e⟩
theorem came_m {W Z : World} {D q a : Nat} {vm vc vb vs va v : Value} {S : Nat → Prop} {t : Rsk} (h : RkIn W D q vm vc vb vs va S t) (hq : q < W.heap.size) (hz : Below W.heap.size W Z) (ho : OwnP Z W.heap.size v (others t.m a)) (b : d_Bs) {g c : Nat} (hg : Blk Z g (d_pcells (a, b)) 173) (hl : t.m.length < 1000000) (ty : TypeId) :
    ∃ v' w, (Builtin.append_ #[46, 46] ty #[v, .slice (some ⟨g, 0, none⟩) 1 c]).run Tryz.prog Z = .ok v' w ∧ (∃ sp n c, v' = .slice sp n c) ∧ (∃ u, w.cell? ⟨D, 2, none⟩ = some u) ∧ w.frozen? ⟨D, 2, none⟩ = false ∧ Below W.heap.size W w ∧
      RkIn (w.setCell ⟨D, 2, none⟩ v') D q v' vc vb vs va (Ext S W (w.setCell ⟨D, 2, none⟩ v')) { t with m := others t.m a ++ [(a, b)] } ∧ Chg (fun k => k = D) W (w.setCell ⟨D, 2, none⟩ v') := by
  have hlo : (others t.m a).length < 1000000 := Nat.lt_of_le_of_lt (List.length_filter_le _ _) hl
  obtain ⟨v', w, hr, ho', hgr, _⟩ := ownP_app ho hz.size hlo (a, b) (adr := ⟨g, 0, none⟩) (c := c) (fun j u hj => by rw [Addr.add_mid, Nat.zero_add]; exact hg.cell hj) ty
  have hb : Below W.heap.size W w := hz.grown hgr hz.size (fun j hj => (ho.lt j hj).1)
  have hc : Chg (fun _ => False) W w := Chg.of_below hb
  have hbD : Blk w D (rcells q vm vc vb vs va t) 49 := h.blk.chg hc id
  obtain ⟨h1, h2⟩ := h.put (j := 2) (u := v') (vm' := v') (vc' := vc) (vb' := vb) (vs' := vs) (va' := va) (t' := { t with m := others t.m a ++ [(a, b)] }) hq hc id rfl h.nlt (own0 ho') (owns_chg h.oc hc (fun _ _ h => h)) (owns_chg h.ob hc (fun _ _ h => h)) (owns_chg h.os hc (fun _ _ h => h)) (owns_chg h.oa hc (fun _ _ h => h))
    (own_new ho' (Nat.le_refl _)) (fun g hg => .inl (h.sc g hg)) (fun g hg => .inl (h.sb g hg)) (fun g hg => .inl (h.ss g hg)) (fun g hg => .inl (h.sa g hg)) (not_old h.oc ho' (Nat.le_refl _))
  exact ⟨v', w, hr, own_slice3 ho', ⟨_, hbD.cell rfl⟩, hbD.free 2, hb, h1, h2.mono (fun k hk => by rcases hk with hk | hk; exact hk.elim; exact hk)⟩
theorem came_b {W Z : World} {D q : Nat} {vm vc vb vs va v : Value} {S : Nat → Prop} {t : Rsk} {l : List Nat} (h : RkIn W D q vm vc vb vs va S t) (hq : q < W.heap.size) (hz : Below W.heap.size W Z) (ho : OwnN Z W.heap.size v l) :
    (∃ sp n c, v = .slice sp n c) ∧ (∃ u, Z.cell? ⟨D, 4, none⟩ = some u) ∧ Z.frozen? ⟨D, 4, none⟩ = false ∧
      RkIn (Z.setCell ⟨D, 4, none⟩ v) D q vm vc v vs va (Ext S W (Z.setCell ⟨D, 4, none⟩ v)) { t with bad := l } ∧ Chg (fun k => k = D) W (Z.setCell ⟨D, 4, none⟩ v) := by
  have hc : Chg (fun _ => False) W Z := Chg.of_below hz
  have hbD : Blk Z D (rcells q vm vc vb vs va t) 49 := h.blk.chg hc id
  obtain ⟨h1, h2⟩ := h.put (j := 4) (u := v) (vm' := vm) (vc' := vc) (vb' := v) (vs' := vs) (va' := va) (t' := { t with bad := l }) hq hc id rfl h.nlt (owns_chg h.om hc (fun _ _ h => h)) (owns_chg h.oc hc (fun _ _ h => h)) (own0 ho) (owns_chg h.os hc (fun _ _ h => h)) (owns_chg h.oa hc (fun _ _ h => h))
    (fun g hg => .inl (h.sm g hg)) (fun g hg => .inl (h.sc g hg)) (own_new ho (Nat.le_refl _)) (fun g hg => .inl (h.ss g hg)) (fun g hg => .inl (h.sa g hg)) h.ap
  exact ⟨own_slice3 ho, ⟨_, hbD.cell rfl⟩, hbD.free 4, h1, h2.mono (fun k hk => by rcases hk with hk | hk; exact hk.elim; exact hk)⟩
end Go.Proofs.YtmgagalhpkieoaaGreatDoor
