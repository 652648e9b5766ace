/- Written, flushed, crashed. -/
import Derived.Test.YtneemllgimeacaaRd
namespace Go.Proofs.Ytneemllgimeacaa
open Go.RowKit

theorem SrcA.chg {F : Nat → Prop} {w w' : World} {sp : Option Addr} {b : Bs} (h : SrcA w sp b) (hc : Chg F w w') (hF : ∀ g, F g → ∃ cs t, Blk w g cs t ∧ ∀ v ∈ cs, ∀ n, v ≠ .int .u8 n) : SrcA w' sp b := fun h0 => by
  obtain ⟨g, o, rfl, hg, hcl⟩ := h h0
  have hn : ¬ F g := fun hf => by
    obtain ⟨cs, t, hb, hv⟩ := hF g hf
    have h1 := hcl 0 h0
    rw [cell_of_row w g _ _ t _ hb] at h1
    have h2 : cs[o + 0]? = some (V8 (b.getD 0 0)) := by simpa using h1
    exact hv _ (List.mem_of_getElem? h2) _ rfl
  exact ⟨g, o, rfl, Nat.lt_of_lt_of_le hg hc.size, fun j hj => (World.cell?_of_block (w := w) (hc.block g hg hn)).trans (hcl j hj)⟩
theorem PwAt.no8 {w : World} {Q : Nat} {p : Pw} (h : PwAt w Q p) : ∀ g, g = Q → ∃ cs t, Blk w g cs t ∧ ∀ v ∈ cs, ∀ n, v ≠ .int .u8 n := fun g e => by
  subst e
  refine ⟨_, _, h.blk, fun v hv n e => ?_⟩
  subst e
  simp at hv
theorem DkAt.no8 {w : World} {D Q : Nat} {S : Nat → Prop} {s : Dsk} (h : DkAt w D Q S s) : ∀ g, g = D → ∃ cs t, Blk w g cs t ∧ ∀ v ∈ cs, ∀ n, v ≠ .int .u8 n := fun g e => by
  subst e
  obtain ⟨M, v0, to, h⟩ := h
  refine ⟨_, _, h.blk, fun v hv n e => ?_⟩
  subst e
  obtain ⟨sp, cap, rfl, _⟩ := h.cache.form
  simp [dcells] at hv
theorem DkAt.d {w : World} {D Q : Nat} {S : Nat → Prop} {s : Dsk} (h : DkAt w D Q S s) : S D ∧ D < w.heap.size := by obtain ⟨_, _, _, h⟩ := h; exact ⟨h.sd, h.blk.lt⟩
/-- A turn of the power leaves the disk. -/
theorem DkAt.power {w w' : World} {D Q : Nat} {S : Nat → Prop} {s : Dsk} (h : DkAt w D Q S s) (hc : Chg (fun k => k = Q) w w') : DkAt w' D Q S s := h.chg hc (fun k hk e => h.nq (e ▸ hk))
theorem Chg.withQ {S : Nat → Prop} {Q : Nat} {w w' : World} (h : Chg S w w') : Chg (fun k => S k ∨ k = Q) w w' := h.mono (fun _ h => .inl h)
theorem Chg.justQ {S : Nat → Prop} {Q : Nat} {w w' : World} (h : Chg (fun k => k = Q) w w') : Chg (fun k => S k ∨ k = Q) w w' := h.mono (fun _ h => .inr h)
theorem Ext.trans {S : Nat → Prop} {a b c : World} (h : a.heap.size ≤ b.heap.size) : ∀ k, Ext S b c k → Ext S a c k := fun k hk => by rcases hk with hk | hk; exact .inl hk; exact .inr ⟨by omega, hk.2⟩

def wrote (s : Dsk) (p : Pw) (a : Nat) (b : Bs) : Int × Dsk × Pw :=
  if idle s p ≠ 0 then (idle s p, s, p) else
  if a < s.n ∧ b.length = 512 then
    (if p.step.1 = false then (3, s, p.step.2) else if s.lose then (0, { s with lose := false }, p.step.2) else
      match s.astray with
      | some t => (0, kept { s with astray := none } t b, p.step.2)
      | none => (0, kept s a b, p.step.2))
  else (1, s, p)
/-- What Write leaves. -/
def Wrote (D Q : Nat) (S : Nat → Prop) (r : Int × Dsk × Pw) (w : World) (e : Ending) (w' : World) : Prop :=
  e = .returned (.int .i64 r.1) ∧ DkAt w' D Q (Ext S w w') r.2.1 ∧ PwAt w' Q r.2.2 ∧ Chg (fun k => S k ∨ k = Q) w w'
theorem armed_off {w : World} {D Q M : Nat} {v : Value} {to : Nat} {S : Nat → Prop} {s : Dsk} (h : DkIn w D Q M v to S s) : DkAt (w.setCell ⟨D, 6, none⟩ (.bool false)) D Q S { s with astray := none } := by
  obtain ⟨k1, k2, k3⟩ := h.keep (chg1 6 (.bool false))
  exact ⟨M, v, to, ⟨h.blk.set 6 _, k1, k2, h.sd, h.sm, h.sq, k3, h.tlt, (fun t e => by cases e), h.nlt⟩⟩
theorem lose_off {w : World} {D Q M : Nat} {v : Value} {to : Nat} {S : Nat → Prop} {s : Dsk} (h : DkIn w D Q M v to S s) : DkAt (w.setCell ⟨D, 5, none⟩ (.bool false)) D Q S { s with lose := false } := by
  obtain ⟨k1, k2, k3⟩ := h.keep (chg1 5 (.bool false))
  exact ⟨M, v, to, ⟨h.blk.set 5 _, k1, k2, h.sd, h.sm, h.sq, k3, h.tlt, h.teq, h.nlt⟩⟩
theorem DkIn.power {w w' : World} {D Q M : Nat} {v : Value} {to : Nat} {S : Nat → Prop} {s : Dsk} (h : DkIn w D Q M v to S s) (hc : Chg (fun k => k = Q) w w') : DkIn w' D Q M v to S s :=
  ⟨h.blk.chg hc (fun e => h.sq (e ▸ h.sd)), h.map.chg hc (fun e => h.sq (e ▸ h.sm)), h.cache.chg hc (fun k hk e => h.sq (e ▸ hk)), h.sd, h.sm, h.sq, fun k hk => Nat.lt_of_lt_of_le (h.lt k hk) hc.size, h.tlt, h.teq, h.nlt⟩
set_option maxRecDepth 100000 in
set_option maxHeartbeats 4000000 in
theorem write_any (D Q : Nat) (S : Nat → Prop) (s : Dsk) (p : Pw) (ad : Nat) (b : Bs) (sp : Option Addr) (n cap : Nat) (ha : ad < 65536) (hbn : b.length = n) (w : World) (hS : SrcA w sp b) (h : DkAt w D Q S s) (hp : PwAt w Q p) (hcn : s.cache.length < 1000000) :
    Calls Try.prog 25 #[.pointer (some ⟨D, 0, none⟩), .int .u16 (ad : Int), .slice sp n cap] w (Wrote D Q S (wrote s p ad b) w) := by
  have H := Lib.hid h
  have HP := Lib.hid hp
  have HS := Lib.hid hS
  have HCN := Lib.hid hcn
  have HBN := Lib.hid hbn
  have hq := hp.blk.lt
  obtain ⟨M, v, to, hin⟩ := h
  have c0 := hin.c.1
  have HIN := Lib.hid hin
  clear hin hcn hp hS
  unfold wrote
  rcases idle_cases s p with hi | hi
  · rw [hi]
    simp only [ne_eq, not_true_eq_false, if_false]
    by_cases hn : ad < s.n
    · have hde : decide (ad < s.n) = true := by simpa using hn
      by_cases h5 : n = 512
      · rw [if_pos ⟨hn, by omega⟩]
        have hb5 : b.length = 512 := by omega
        have HB5 := Lib.hid hb5
        subst h5
        clear hb5 hbn hn
        obtain ⟨p', hp'⟩ : ∃ p', p.step = p' := ⟨_, rfl⟩
        obtain ⟨ok, q'⟩ := p'
        rw [hp']
        have HPS := Lib.hid hp'
        clear hp'
        simp only
        obtain ⟨lo, hlo⟩ : ∃ lo, s.lose = lo := ⟨_, rfl⟩
        obtain ⟨ast, hast⟩ : ∃ ast, s.astray = ast := ⟨_, rfl⟩
        rw [hlo, hast]
        cases ok
        · simp only [if_true]
          go_enter Try.func25, Try.ntmps25
          go_wp2_with (first | (go_at_call 36; refine (idle_any D Q S s p _ H.out HP.out).mono ?_; rw [hi]; rintro e w' ⟨rfl, rfl⟩) | (go_at_call 47; refine (has_any D Q S s ad ha _ H.out).mono ?_; rw [hde]; rintro e w' ⟨rfl, rfl⟩) | (go_at_call 24; refine (step_any Q p _ HP.out).mono ?_; rw [HPS.out]; rintro e w1 ⟨rfl, hp1, hc1⟩; have HP1 := Lib.hid hp1; have HC1 := Lib.hid hc1; have HI1 := Lib.hid (HIN.out.power hc1); have c51 := HI1.out.c.2.2.2.2.2.1; have c61 := HI1.out.c.2.2.2.2.2.2.1; have c71 := HI1.out.c.2.2.2.2.2.2.2; rw [hlo] at c51; rw [hast] at c61; have f5 := HI1.out.blk.free 5; have f6 := HI1.out.blk.free 6; clear hp1 hc1) | fail)
          go_ret
          have hk1 : DkAt w1 D Q S s := ⟨M, v, to, HI1.out⟩
          exact ⟨rfl, hk1.ext hq, HP1.out, HC1.out.justQ⟩
        · simp only [Bool.true_eq_false, if_false]
          cases lo
          · simp only [Bool.false_eq_true, if_false]
            cases ast with
            | none =>
              go_enter Try.func25, Try.ntmps25
              go_wp2_with (first | (go_at_call 36; refine (idle_any D Q S s p _ H.out HP.out).mono ?_; rw [hi]; rintro e w' ⟨rfl, rfl⟩) | (go_at_call 47; refine (has_any D Q S s ad ha _ H.out).mono ?_; rw [hde]; rintro e w' ⟨rfl, rfl⟩) | (go_at_call 24; refine (step_any Q p _ HP.out).mono ?_; rw [HPS.out]; rintro e w1 ⟨rfl, hp1, hc1⟩; have HP1 := Lib.hid hp1; have HC1 := Lib.hid hc1; have HI1 := Lib.hid (HIN.out.power hc1); have c51 := HI1.out.c.2.2.2.2.2.1; have c61 := HI1.out.c.2.2.2.2.2.2.1; have c71 := HI1.out.c.2.2.2.2.2.2.2; rw [hlo] at c51; rw [hast] at c61; have f5 := HI1.out.blk.free 5; have f6 := HI1.out.blk.free 6; clear hp1 hc1) | (go_at_call 49; refine (keep_any D Q S (s) (ad) b sp cap ha HB5.out _ (HS.out.chg HC1.out HP.out.no8) ⟨M, v, to, HI1.out⟩ HP1.out.blk.lt HCN.out).mono ?_; rintro e w3 ⟨rfl, hd3, hc3⟩; have HD3 := Lib.hid hd3; have HC3 := Lib.hid hc3; clear hd3 hc3) | fail)
              go_ret
              refine ⟨rfl, HD3.out.mono (Ext.trans HC1.out.size) (fun hh => ?_) (fun k hk => ?_), HP1.out.chg HC3.out (HI1.out.sq), HC1.out.justQ.trans' HC3.out.withQ⟩
              · rcases hh with hh | hh
                · exact HI1.out.sq hh
                · omega
              · rcases hk with hk | hk
                · exact Nat.lt_of_lt_of_le (HI1.out.lt k hk) HC3.out.size
                · exact hk.2
            | some t =>
              have htt := HIN.out.teq t hast
              subst htt
              have htl := HIN.out.tlt
              go_enter Try.func25, Try.ntmps25
              go_wp2_with (first | (go_at_call 36; refine (idle_any D Q S s p _ H.out HP.out).mono ?_; rw [hi]; rintro e w' ⟨rfl, rfl⟩) | (go_at_call 47; refine (has_any D Q S s ad ha _ H.out).mono ?_; rw [hde]; rintro e w' ⟨rfl, rfl⟩) | (go_at_call 24; refine (step_any Q p _ HP.out).mono ?_; rw [HPS.out]; rintro e w1 ⟨rfl, hp1, hc1⟩; have HP1 := Lib.hid hp1; have HC1 := Lib.hid hc1; have HI1 := Lib.hid (HIN.out.power hc1); have c51 := HI1.out.c.2.2.2.2.2.1; have c61 := HI1.out.c.2.2.2.2.2.2.1; have c71 := HI1.out.c.2.2.2.2.2.2.2; rw [hlo] at c51; rw [hast] at c61; have f5 := HI1.out.blk.free 5; have f6 := HI1.out.blk.free 6; clear hp1 hc1) | (go_at_call 49; refine (keep_any D Q S ({ s with astray := none }) (to) b sp cap htl HB5.out _ ((HS.out.chg HC1.out HP.out.no8).chg (chg1 6 (.bool false)) (DkAt.no8 ⟨M, v, to, HI1.out⟩)) (armed_off HI1.out) (Nat.lt_of_lt_of_le HP1.out.blk.lt (chg1 6 (.bool false)).size) HCN.out).mono ?_; rintro e w3 ⟨rfl, hd3, hc3⟩; have HD3 := Lib.hid hd3; have HC3 := Lib.hid hc3; clear hd3 hc3) | fail)
              go_ret
              have hsz : w1.heap.size ≤ (w1.setCell ⟨D, 6, none⟩ (.bool false)).heap.size := (chg1 (D := D) (w := w1) 6 (.bool false)).size
              have hd3 := HD3.out
              rw [hlo] at hd3
              refine ⟨rfl, hd3.mono (Ext.trans (Nat.le_trans HC1.out.size hsz)) (fun hh => ?_) (fun k hk => ?_), (HP1.out.chg (chg1 6 (.bool false)) (fun e => HI1.out.sq (e ▸ HI1.out.sd))).chg HC3.out (HI1.out.sq), (HC1.out.justQ.trans' (chgD HI1.out.sd 6 _).withQ).trans' HC3.out.withQ⟩
              · rcases hh with hh | hh
                · exact HI1.out.sq hh
                · omega
              · rcases hk with hk | hk
                · exact Nat.lt_of_lt_of_le (HI1.out.lt k hk) (Nat.le_trans hsz HC3.out.size)
                · exact hk.2
          · simp only [if_true]
            go_enter Try.func25, Try.ntmps25
            go_wp2_with (first | (go_at_call 36; refine (idle_any D Q S s p _ H.out HP.out).mono ?_; rw [hi]; rintro e w' ⟨rfl, rfl⟩) | (go_at_call 47; refine (has_any D Q S s ad ha _ H.out).mono ?_; rw [hde]; rintro e w' ⟨rfl, rfl⟩) | (go_at_call 24; refine (step_any Q p _ HP.out).mono ?_; rw [HPS.out]; rintro e w1 ⟨rfl, hp1, hc1⟩; have HP1 := Lib.hid hp1; have HC1 := Lib.hid hc1; have HI1 := Lib.hid (HIN.out.power hc1); have c51 := HI1.out.c.2.2.2.2.2.1; have c61 := HI1.out.c.2.2.2.2.2.2.1; have c71 := HI1.out.c.2.2.2.2.2.2.2; rw [hlo] at c51; rw [hast] at c61; have f5 := HI1.out.blk.free 5; have f6 := HI1.out.blk.free 6; clear hp1 hc1) | fail)
            go_ret
            have hd3 := lose_off HI1.out
            rw [hast] at hd3
            exact ⟨rfl, hd3.ext hq, HP1.out.chg (chg1 5 (.bool false)) (fun e => HI1.out.sq (e ▸ HI1.out.sd)), HC1.out.justQ.trans' (chgD HI1.out.sd 5 _).withQ⟩
      · rw [if_neg (fun hh => h5 (by omega))]
        clear hn hbn
        go_enter Try.func25, Try.ntmps25
        go_wp2_with (first | (go_at_call 36; refine (idle_any D Q S s p _ H.out HP.out).mono ?_; rw [hi]; rintro e w' ⟨rfl, rfl⟩) | (go_at_call 47; refine (has_any D Q S s ad ha _ H.out).mono ?_; rw [hde]; rintro e w' ⟨rfl, rfl⟩) | fail)
        go_ret
        exact ⟨rfl, H.out.ext hq, HP.out, Chg.refl _ _⟩
    · rw [if_neg (fun hh => hn hh.1)]
      have hde : decide (ad < s.n) = false := by simpa using hn
      clear hn hbn
      go_enter Try.func25, Try.ntmps25
      go_wp2_with (first | (go_at_call 36; refine (idle_any D Q S s p _ H.out HP.out).mono ?_; rw [hi]; rintro e w' ⟨rfl, rfl⟩) | (go_at_call 47; refine (has_any D Q S s ad ha _ H.out).mono ?_; rw [hde]; rintro e w' ⟨rfl, rfl⟩) | fail)
      go_ret
      exact ⟨rfl, H.out.ext hq, HP.out, Chg.refl _ _⟩
  · rw [hi]
    rw [if_pos (by decide)]
    go_enter Try.func25, Try.ntmps25
    go_wp2_with (first | (go_at_call 36; refine (idle_any D Q S s p _ H.out HP.out).mono ?_; rw [hi]; rintro e w' ⟨rfl, rfl⟩) | fail)
    go_ret
    exact ⟨rfl, H.out.ext hq, HP.out, Chg.refl _ _⟩
end Go.Proofs.Ytneemllgimeacaa
