/- ContentKeeps: all that an object reads. -/
import Derived.Test.YthionhliokhcgaaCu
namespace Go.Proofs.Ythionhliokhcgaa
open Go.RowKit Go.Shelf

attribute [local go_sem] Oper.semAt_some

theorem ran_n {bad : Nat} {wt : Nat → Nat → Bool} {X te n : Nat} {er : Bool} (h : Ran bad wt X te n er) (ht : te ≤ X + 2048) : n ≤ 5 := by
  rcases Nat.lt_or_ge 5 n with h1 | h1
  · have h2 := (h.all 5 h1).1
    unfold pcA at h2
    rw [if_neg (by omega)] at h2
    omega
  · exact h1
theorem ranQ_le (wt : Nat → Nat → Bool) (fr te n : Nat) (er : Bool) : (ranQ wt fr te n er).length ≤ n + 1 := by
  unfold ranQ
  split
  · exact askU_len wt fr te (n + 1)
  · have := askU_len wt fr te n; omega
theorem all_app {W : World} {lo lo' : Nat} {ov v : Value} {a b : B8} (ho : OwnB W lo ov a) (hv : OwnB W lo' v b) (h0 : 0 < b.length) (hlo : lo ≤ W.heap.size) (hl : a.length + b.length < 100000000) (ty : TypeId) :
    ∃ v' W', (Builtin.append_ #[24, 24] ty #[ov, v]).run Try.prog W = .ok v' W' ∧ OwnB W' lo v' (a ++ b) ∧ Chg (fun g => ov.ownBlock = some g) W W' := by
  rcases hv.2 with ⟨_, hn⟩ | ⟨g, cap, cur, rfl, _, hgg, q3, q4, q5, q6⟩
  · omega
  · have hb : Blk W g cur.toList 5 := by unfold Blk; simpa using hgg
    obtain ⟨v', w', hr, h1, h2, _⟩ := ownB_app ho hlo (l2 := b) hl (g := g) (f := 0) (c := cap) hb (fun j x hj => by
      have h1 : (b.map V8)[j]? = some (V8 x) := by rw [List.getElem?_map, hj]; rfl
      rw [← q6, List.getElem?_take] at h1
      split at h1
      · rw [Nat.zero_add]; exact h1
      · cases h1) ty
    exact ⟨v', w', hr, h1, (Chg.refl _ _).grown h2 (fun k e => .inl e)⟩
/-- Behind a reading of all. -/
def AllPost (w : World) (B D : Nat) (vs : List Value) (m : List B8) (av : Value) (aq : List Nat) (sz : Nat) (e : Ending) (w' : World) : Prop :=
  ∃ v av' aq', e = .returned v ∧ OwnB w' w.heap.size v (rng m 0 sz) ∧ ShW w' B D vs m 0 av' aq' ∧ CMv D av w av' w' ∧ aq'.length ≤ aq.length + 100
structure AllK (w : World) (B D : Nat) (vs : List Value) (m : List B8) (av : Value) (aq : List Nat) (te k : Nat) (o av' : Value) (aq' : List Nat) (wr : World) : Prop where
  own : OwnB wr w.heap.size o (rng m 0 te)
  sh : ShW wr B D vs m 0 av' aq'
  mv : CMv D av w av' wr
  q : aq'.length ≤ aq.length + 6 * k
set_option maxRecDepth 100000 in
set_option maxHeartbeats 8000000 in
theorem call_any {w : World} {B D g3 g4 : Nat} {vs : List Value} {m : List B8} {av : Value} {aq : List Nat} {sz : Nat} (h : ShW w B D vs m 0 av aq) (hf : Fil m sz) (hB : B ≤ w.heap.size) (hq : aq.length ≤ 100000) (h3 : Blk w g3 [.pointer (some ⟨D, 0, none⟩)] 29) (h4 : Blk w g4 [.int .u32 (sz : Int)] 34) (ha : av.ownBlock ≠ some g4) :
    Calls Try.prog 12 #[.pointer (some ⟨g4, 0, none⟩), .pointer (some ⟨g3, 0, none⟩)] w (AllPost w B D vs m av aq sz) := by
  have HSH := Lib.hid h; have HF := Lib.hid hf; have HB := Lib.hid hB; have HQ := Lib.hid hq; have H3 := Lib.hid h3; have H4 := Lib.hid h4; have HA := Lib.hid ha
  generalize hPost : AllPost w B D vs m av aq sz = Post
  have HP : Hid (∀ k v av' aq' w', AllK w B D vs m av aq sz k v av' aq' w' → k ≤ 16 → Post (.returned v) w') := Lib.hid fun k v av' aq' w' hk h16 => by rw [← hPost]; exact ⟨v, av', aq', rfl, hk.own, hk.sh, hk.mv, by have := hk.q; omega⟩
  have hsz := hf.top
  have HSZ := Lib.hid hsz
  have wsz := IntWalk.i64_in (sz : Int) (by omega)
  clear h hf hB hq h3 h4 ha hPost hsz
  go_enter Try.func12, Try.ntmps12
  go_upto_region 3 with fail
  go_loopw [3, 4] (fun o i wr => ∃ k o' av' aq', o' = o ∧ i = .int .i64 ((2048 * k : Nat) : Int) ∧ 2048 * k < sz + 2048 ∧ AllK w B D vs m av aq (min (2048 * k) sz) k o' av' aq' wr) (fun _ i _ => sz + 2048 - (intOf i).toNat)
  case atStart => exact ⟨0, _, av, aq, rfl, rfl, by omega, ⟨by rw [show min (2048 * 0) sz = 0 by omega]; exact World.ownsRow_nil _ _ _ _, HSH.out, CMv.refl _ _ _, by omega⟩⟩
  case round =>
    obtain ⟨k, o, av', aq', rfl, rfl, hk, hak⟩ := hrel
    have HAK := Lib.hid hak
    clear hak
    obtain ⟨X, hX⟩ : ∃ X, 2048 * k = X := ⟨_, rfl⟩
    rw [hX] at hk HAK ⊢
    have HX := Lib.hid hX
    clear hX
    have c3 := (HSH.out.keep HAK.out.mv H3.out (by decide) (by decide)).cell (j := 0) rfl
    have c4 := (HAK.out.mv.blk H4.out (fun e => by subst e; exact absurd (H4.out.same HSH.out.d) (by decide)) HA.out).cell (j := 0) rfl
    have wk1 := IntWalk.i64_in ((X : Int) + 2048) (by have := HSZ.out; omega)
    by_cases hlt : X < sz
    · have hlt' : (X : Int) < (sz : Int) := by omega
      have HLT := Lib.hid hlt
      clear hlt
      go_wp2_with fail
      have hcall : Calls Try.prog 11 #[.iface 29 (.pointer (some ⟨D, 0, none⟩)), .int .u32 (sz : Int), .int .i64 (X : Int), .int .i64 2048] wr _ :=
        cread_any HAK.out.sh HF.out.le (Nat.le_trans HB.out HAK.out.mv.chg.size) (by have := HAK.out.q; have := HQ.out; have := HX.out; have := HSZ.out; omega) sz X 2048 HSZ.out (by have := HSZ.out; have := HLT.out; omega) (by omega)
      refine hcall.mono ?_
      rintro e W1 ⟨n, er, v, hran, ⟨av1, hsh1, hm1⟩, rfl, hres⟩
      obtain rfl : er = false := hran.no_bad (fun _ _ => bad0 _)
      rw [if_neg (by simp)] at hres
      rw [if_neg (by simp)]
      have e1 : rdFr sz X = X := by unfold rdFr; have := HLT.out; omega
      have e2 : rdTe sz X 2048 = min (X + 2048) sz := by unfold rdTe; rw [e1]; have := HLT.out; omega
      rw [e1, e2] at hran hres hsh1
      have hn5 := ran_n hran (by omega)
      have hown1 := HAK.out.sh.own hm1 HAK.out.own (by decide) (by decide)
      have hlo : w.heap.size ≤ W1.heap.size := Nat.le_trans HAK.out.mv.chg.size hm1.chg.size
      rw [show min X sz = X by have := HLT.out; omega] at hown1
      obtain ⟨v2, W2, hr, ho2, hc2⟩ := all_app hown1 hres (by rw [rng_length]; have := HLT.out; omega) hlo (by rw [rng_length, rng_length]; have := HSZ.out; omega) 24
      rw [rng_join m 0 X (min (X + 2048) sz) (by omega) (by have := HLT.out; omega)] at ho2
      have HK1 : Hid (AllK w B D vs m av aq (min (X + 2048) sz) (k + 1) v2 av1 (aq' ++ ranQ wtA X (min (X + 2048) sz) n false) W2) := Lib.hid (by
        have hb : ∀ g, o.ownBlock = some g → w.heap.size ≤ g := fun g hg => c_owns_lo hown1 hg
        have hsh2 : ShW W2 B D vs m 0 av1 _ := hsh1.out hc2 (fun e => by
            exact c_own_ne hown1 hsh1.d (by decide) e)
          (fun g hg e => c_own_ty hsh1.q hown1 (by decide) hg e)
          (fun u hu g hg e => by
            have := hb g e
            have := HSH.out.row_lt u hu g hg
            omega)
        refine ⟨ho2, hsh2, ⟨(HAK.out.mv.trans hm1).chg.trans (G := fun g => o.ownBlock = some g) hc2 (fun i hi => .inr (hb i hi)), (HAK.out.mv.trans hm1).own⟩, ?_⟩
        rw [List.length_append]
        have := ranQ_le wtA X (min (X + 2048) sz) n false
        have := HAK.out.q
        omega)
      have HR := Lib.hid hr
      clear hran hres hsh1 hm1 hown1 hlo hr ho2 hc2 hcall e1 e2 c3 c4
      go_wp2_with (first | (refine c_val rfl (c_appB rfl rfl rfl HR.out) ?_) | fail)
      go_roundw
      case rel => exact ⟨k + 1, _, _, _, rfl, by have := HX.out; rw [show 2048 * (k + 1) = X + 2048 by omega]; go_num, by have := HX.out; have := HLT.out; omega, by have := HX.out; rw [show 2048 * (k + 1) = X + 2048 by omega]; exact HK1.out⟩
      case measure => have := HX.out; simp [intOf]; omega
    · have hlt' : ¬ (X : Int) < (sz : Int) := by omega
      have HE := Lib.hid (HP.out k o av' aq' wr (by have := HAK.out; rw [show min X sz = sz by omega] at this; exact this) (by have := HX.out; have := HSZ.out; omega))
      clear hlt
      go_wp2_with fail
      first | exact HE.out | (go_ret; exact HE.out)
end Go.Proofs.Ythionhliokhcgaa
