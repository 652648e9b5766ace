/- The document's disk: Flush. -/
import Derived.Test.YtneemllgimeacaaRw
namespace Go.Proofs.Ytneemllgimeacaa
open Go.RowKit

theorem RkAt.ext3 {a b c : World} {D q : Nat} {S : Nat → Prop} {t : Rsk} (h : RkAt c D q (Ext (Ext S a b) b c) t) (hab : a.heap.size ≤ b.heap.size) (hq : q < a.heap.size) : RkAt c D q (Ext S a c) t := by
  refine h.mono (fun k hk => ?_) (fun hh => ?_) (fun k hk => ?_)
  · rcases hk with (hk | hk) | hk
    · exact .inl hk
    · exact .inr ⟨hk.1, h.lt k (.inl (.inr hk))⟩
    · exact .inr ⟨by omega, hk.2⟩
  · rcases hh with hh | hh
    · exact h.nq (.inl (.inl hh))
    · omega
  · rcases hk with hk | hk
    · exact h.lt k (.inl (.inl hk))
    · exact hk.2
theorem RkAt.ext4 {z a b c : World} {D q : Nat} {S : Nat → Prop} {t : Rsk} (h : RkAt c D q (Ext S a b) t) (_ : a.heap.size ≤ b.heap.size) (hza : z.heap.size ≤ a.heap.size) (hbc : b.heap.size ≤ c.heap.size) (hq : q < z.heap.size) : RkAt c D q (Ext S z c) t := by
  refine h.mono (fun k hk => ?_) (fun hh => ?_) (fun k hk => ?_)
  · rcases hk with hk | hk
    · exact .inl hk
    · exact .inr ⟨by omega, by omega⟩
  · rcases hh with hh | hh
    · exact h.nq (.inl hh)
    · omega
  · rcases hk with hk | hk
    · exact h.lt k (.inl hk)
    · exact hk.2
def rall (t : Rsk) (l : List (Nat × Bs)) : Rsk := l.foldl (fun t x => rcame t x.1 x.2 512) t
theorem rall_snoc (t : Rsk) (l : List (Nat × Bs)) (x : Nat × Bs) : rall t (l ++ [x]) = rcame (rall t l) x.1 x.2 512 := by simp [rall, List.foldl_append]
/-- What holds of the document's disk while blocks come: it grows by one at most a time. -/
structure Grows (t u : Rsk) (k : Nat) : Prop where
  n : u.n = t.n
  cache : u.cache = t.cache
  stuck : u.stuck = t.stuck
  dead : u.dead = t.dead
  lose : u.lose = t.lose
  astray : u.astray = t.astray
  m : u.m.length ≤ t.m.length + k
  bad : u.bad.length ≤ t.bad.length
  b : ∀ x ∈ u.m, x.2.length = 512
theorem Grows.refl {t : Rsk} (h : ∀ x ∈ t.m, x.2.length = 512) : Grows t t 0 := ⟨rfl, rfl, rfl, rfl, rfl, rfl, Nat.le_refl _, Nat.le_refl _, h⟩
theorem Grows.came {t u : Rsk} {k : Nat} (h : Grows t u k) (a : Nat) {b : Bs} (hb : b.length = 512) {n : Nat} (hn : n ≤ 512) : Grows t (rcame u a b n) (k + 1) := by
  refine ⟨h.n, h.cache, h.stuck, h.dead, h.lose, h.astray, ?_, Nat.le_trans (List.length_filter_le _ _) h.bad, ?_⟩
  · have := List.length_filter_le (fun x : Nat × Bs => x.1 != a) u.m
    have h2 := h.m
    simp only [rcame, List.length_append, others, List.length_cons, List.length_nil]
    omega
  · intro x hx
    simp only [rcame] at hx
    rcases List.mem_append.1 hx with hx | hx
    · exact h.b x (List.mem_filter.1 hx).1
    · obtain rfl := by simpa using hx
      have := rblock_length a h.b
      simp [this, hb]
      omega
theorem Grows.skip {t u : Rsk} {k : Nat} (h : Grows t u k) : Grows t u (k + 1) := ⟨h.n, h.cache, h.stuck, h.dead, h.lose, h.astray, Nat.le_succ_of_le h.m, h.bad, h.b⟩
def rflushed (t : Rsk) (p : Pw) : Int × Rsk × Pw :=
  if t.dead then (3, t, p) else if p.step.1 = false then (3, t, p.step.2) else (0, { rall t t.cache with cache := [] }, p.step.2)
/-- Small, and with room for all that the cache holds. -/
structure Room (t : Rsk) : Prop where
  small : Small t
  room : t.m.length + t.cache.length < 1000000
  b : ∀ x ∈ t.m, x.2.length = 512
  c : ∀ x ∈ t.cache, x.1 < 65536 ∧ x.2.length = 512
theorem Room.grows {t u : Rsk} {k : Nat} (h : Room t) (g : Grows t u k) (hk : k ≤ t.cache.length) : Small u :=
  ⟨by have := g.m; have := h.room; omega, by rw [g.cache]; exact h.small.c, Nat.lt_of_le_of_lt g.bad h.small.b, by rw [g.stuck]; exact h.small.s⟩
/-- A round of blocks that come. -/
def Comes (W : World) (D q : Nat) (S : Nat → Prop) (t : Rsk) (f : Nat → Rsk) (N : Nat) (i : Value) (wr : World) : Prop :=
  ∃ k : Nat, k ≤ N ∧ i = .int .i64 (k : Int) ∧ RkAt wr D q (Ext S W wr) (f k) ∧ Grows t (f k) k ∧ Chg (fun k => k = D) W wr
set_option maxRecDepth 100000 in
set_option maxHeartbeats 4000000 in
theorem rflush_any (D q : Nat) (S : Nat → Prop) (t : Rsk) (p : Pw) (w : World) (h : RkAt w D q S t) (hp : RpAt w q p) (hr : Room t) :
    Calls Try.prog 39 #[.pointer (some ⟨D, 0, none⟩)] w (Rwrote D q S (rflushed t p) w) := by
  have HK := Lib.hid h
  have HP := Lib.hid hp
  have HR := Lib.hid hr
  have hq := hp.blk.lt
  obtain ⟨vm, vc, vb, vs, va, h⟩ := h
  obtain ⟨-, c1, -, -, -, -, c6, -, -⟩ := h.c
  have H := Lib.hid h
  clear h hp hr
  unfold rflushed
  by_cases hd : t.dead = true
  · rw [hd] at c6
    rw [if_pos hd]
    go_enter Try.func39, Try.ntmps39
    go_wp2_with fail
    go_ret
    exact rwrote_same HK.out HP.out
  · have hd' : t.dead = false := by simpa using hd
    rw [if_neg hd]
    rw [hd'] at c6
    clear hd
    by_cases hst : p.step.1 = false
    · rw [if_pos hst]
      go_enter Try.func39, Try.ntmps39
      go_wp2_with fail
      refine (rstep_any q p w HP.out).mono ?_
      rw [hst]
      rintro e w1 ⟨rfl, hp1, hc1⟩
      have HP1 := Lib.hid hp1
      have HC1 := Lib.hid hc1
      clear hp1 hc1
      go_wp2_with fail
      go_ret
      exact ⟨rfl, (HK.out.chg HC1.out (fun k hk e => H.out.sq (e ▸ hk))).ext hq |> fun h => h, HP1.out, HC1.out.mono (fun _ h => .inr h)⟩
    · rw [if_neg hst]
      have hst' : p.step.1 = true := by simpa using hst
      clear hst
      go_enter Try.func39, Try.ntmps39
      go_wp2_with fail
      refine (rstep_any q p w HP.out).mono ?_
      rw [hst']
      rintro e w1 ⟨rfl, hp1, hc1⟩
      have HP1 := Lib.hid hp1
      have HC1 := Lib.hid hc1
      have HK1 := Lib.hid (HK.out.chg hc1 (fun k hk e => H.out.sq (e ▸ hk)))
      have hq1 : q < w1.heap.size := Nat.lt_of_lt_of_le hq hc1.size
      have hs1 : w.heap.size ≤ w1.heap.size := hc1.size
      clear hp1 hc1 c1 c6
      obtain ⟨N, hN⟩ : ∃ N, t.cache.length = N := ⟨_, rfl⟩
      have HN := Lib.hid hN
      have hlN : N < 1000000 := by have := HR.out.small.c; omega
      clear hN
      have HRel := Lib.hid (show Comes w1 D q S t (fun k => rall t (t.cache.take k)) N (.int .i64 0) w1 from ⟨0, Nat.zero_le _, rfl, by simpa [rall] using HK1.out.ext hq1, by simpa [rall] using Grows.refl HR.out.b, Chg.refl _ _⟩)
      go_wp2_with fail
      go_loopw [3] (fun i wr => Comes w1 D q S t (fun k => rall t (t.cache.take k)) N i wr) (fun i _ => N - (intOf i).toNat)
      case atStart => exact HRel.out
      case round =>
        clear HRel
        obtain ⟨k, hk, rfl, hrk, hgr, hch⟩ := hrel
        simp only at hrk hgr
        have HRK := Lib.hid hrk
        have HGR := Lib.hid hgr
        have HCH := Lib.hid hch
        obtain ⟨vm', vc', vb', vs', va', hin⟩ := hrk
        have hwk := IntWalk.i64_in ((k : Int) + 1) (by omega)
        have hps := own_ps hin.oc
        rw [hgr.cache] at hps
        obtain ⟨spc, cap, rfl, hc1, hc2, hc3⟩ := hps
        rw [HN.out] at hc1 hc3
        have e3 : wr.cell? ⟨D, 3, none⟩ = some (.slice spc N cap) := by rw [← HN.out]; exact hin.c.2.2.2.1
        have hf3 := hin.blk.free 3
        have HIN := Lib.hid hin
        clear hin hgr hch
        by_cases hlt : k < N
        · obtain ⟨x, hx⟩ : ∃ x, t.cache[k]? = some x := ⟨_, List.getElem?_eq_getElem (by have := HN.out; omega)⟩
          obtain ⟨g, rfl, hg, hcl⟩ := hc3 (by omega)
          obtain ⟨d0, d1⟩ := hcl k x hx
          have HX := Lib.hid hx
          have hxm := HR.out.c x (List.mem_of_getElem? hx)
          have HXM := Lib.hid hxm
          clear hcl hx hg hxm
          go_wp2_with fail
          refine (rcomes_any D q _ _ x.1 512 x.2 HXM.out.1 HXM.out.2 (Nat.le_refl _) HGR.out.b _ HRK.out (HR.out.grows HGR.out (by rw [HN.out]; exact hk)) (Nat.lt_of_lt_of_le hq1 HCH.out.size)).mono ?_
          rintro e w3 ⟨rfl, hr3, hch3⟩
          have HR3 := Lib.hid hr3
          have HC3 := Lib.hid hch3
          clear hr3 hch3
          go_wp2_with fail
          go_roundw
          case rel => exact ⟨k + 1, by omega, by go_num, by
              show RkAt _ D q _ (rall t (t.cache.take (k + 1)))
              rw [take_one HX.out, rall_snoc]
              exact HR3.out.ext3 HCH.out.size hq1, by
              show Grows t (rall t (t.cache.take (k + 1))) (k + 1)
              rw [take_one HX.out, rall_snoc]
              exact HGR.out.came _ HXM.out.2 (Nat.le_refl _), HCH.out.trans' HC3.out⟩
          case measure => simp [intOf]; omega
        · obtain rfl : k = N := by omega
          clear hlt hk
          go_wp2_with fail
          go_ret
          have eN : t.cache.take k = t.cache := List.take_of_length_le (by rw [HN.out]; exact Nat.le_refl _)
          obtain ⟨k1, k2⟩ := HIN.out.put0 (j := 3) (u := .slice none 0 0) (vm' := vm') (vc' := .slice none 0 0) (vb' := vb') (vs' := vs') (va' := va') (t' := { rall t (t.cache.take k) with cache := [] }) rfl rfl (.inl ⟨rfl, rfl⟩) (.inr ⟨rfl, rfl⟩) ⟨rfl, rfl⟩ ⟨rfl, rfl⟩ (.inl ⟨rfl, rfl⟩)
          rw [← eN]
          have hk1 : RkAt _ D q _ _ := ⟨_, _, _, _, _, k1⟩
          have hsw := HCH.out.size
          have hsd := H.out.sd
          have hnq : ¬ (q = D) := fun e => H.out.sq (e ▸ hsd)
          exact ⟨rfl, hk1.ext4 HCH.out.size hs1 k2.size hq, (HP1.out.chg HCH.out hnq).chg k2 hnq, ((HC1.out.mono (fun _ h => .inr h)).trans HCH.out (fun k e => .inl (.inl (e ▸ hsd)))).trans k2 (fun k e => .inl (.inl (e ▸ hsd)))⟩
end Go.Proofs.Ytneemllgimeacaa
