/- Written, flushed, crashed. -/
import Derived.Test.YtmgagalhpkieoaaGreatDoorM05
namespace Go.Proofs.YtmgagalhpkieoaaGreatDoor
open Go.RowKit

theorem SrcA.chg {F : Nat → Prop} {w w' : World} {sp : Option Addr} {b : d_Bs} (h : SrcA w sp b) (hc : Chg F w w') (hF : ∀ g, F g → ∃ cs t, Blk w g cs t ∧ ∀ v ∈ cs, ∀ n, v ≠ .int .u8 n) : SrcA w' sp b := fun h0 => by
  obtain ⟨g, o, rfl, hg, hcl⟩ := h h0
  have hn : ¬ F g := fun hf => by
    obtain ⟨cs, t, hb, hv⟩ := hF g hf
    have h1 := hcl 0 h0
    rw [cell_of_row w g _ _ t _ hb] at h1
    have h2 : cs[o + 0]? = some (V8 (b.getD 0 0)) := by simpa using h1
    exact hv _ (List.mem_of_getElem? h2) _ rfl
  exact ⟨g, o, rfl, Nat.lt_of_lt_of_le hg hc.size, fun j hj => (World.cell?_of_block (w := w) (hc.block g hg hn)).trans (hcl j hj)⟩
theorem PwAt.no8 {w : World} {Q : Nat} {p : Pw} (h : PwAt w Q p) : ∀ g, g = Q → ∃ cs t, Blk w g cs t ∧ ∀ v ∈ cs, ∀ n, v ≠ .int .u8 n := fun g e => by
  subst e
  refine ⟨_, _, h.blk, fun v hv n e => ?_⟩
  subst e
  simp at hv
theorem DkAt.no8 {w : World} {D Q : Nat} {S : Nat → Prop} {s : Dsk} (h : DkAt w D Q S s) : ∀ g, g = D → ∃ cs t, Blk w g cs t ∧ ∀ v ∈ cs, ∀ n, v ≠ .int .u8 n := fun g e => by
  subst e
  obtain ⟨M, v0, to, h⟩ := h
  refine ⟨_, _, h.blk, fun v hv n e => ?_⟩
  subst e
  obtain ⟨sp, cap, rfl, _⟩ := h.cache.form
  simp [dcells] at hv
theorem DkAt.d {w : World} {D Q : Nat} {S : Nat → Prop} {s : Dsk} (h : DkAt w D Q S s) : S D ∧ D < w.heap.size := by obtain ⟨_, _, _, h⟩ := h; exact ⟨h.sd, h.blk.lt⟩
theorem DkAt.power {w w' : World} {D Q : Nat} {S : Nat → Prop} {s : Dsk} (h : DkAt w D Q S s) (hc : Chg (fun k => k = Q) w w') : DkAt w' D Q S s := h.chg hc (fun k hk e => h.nq (e ▸ hk))
theorem Chg.withQ {S : Nat → Prop} {Q : Nat} {w w' : World} (h : Chg S w w') : Chg (fun k => S k ∨ k = Q) w w' := h.mono (fun _ h => .inl h)
theorem Chg.justQ {S : Nat → Prop} {Q : Nat} {w w' : World} (h : Chg (fun k => k = Q) w w') : Chg (fun k => S k ∨ k = Q) w w' := h.mono (fun _ h => .inr h)
theorem Ext.trans {S : Nat → Prop} {a b c : World} (h : a.heap.size ≤ b.heap.size) : ∀ k, Ext S b c k → Ext S a c k := fun k hk => by rcases hk with hk | hk; exact .inl hk; exact .inr ⟨by omega, hk.2⟩

def wrote (s : Dsk) (p : Pw) (a : Nat) (b : d_Bs) : Int × Dsk × Pw :=
  if idle s p ≠ 0 then (idle s p, s, p) else
  if a < s.n ∧ b.length = 512 then
    (if p.step.1 = false then (3, s, p.step.2) else if s.lose then (0, { s with lose := false }, p.step.2) else
      match s.astray with
      | some t => (0, kept { s with astray := none } t b, p.step.2)
      | none => (0, kept s a b, p.step.2))
  else (1, s, p)
def Wrote (D Q : Nat) (S : Nat → Prop) (r : Int × Dsk × Pw) (w : World) (e : Ending) (w' : World) : Prop :=
  e = .returned (.int .i64 r.1) ∧ DkAt w' D Q (Ext S w w') r.2.1 ∧ PwAt w' Q r.2.2 ∧ Chg (fun k => S k ∨ k = Q) w w'
def WroteC (D Q M : Nat) (S : Nat → Prop) (r : Int × Dsk × Pw) (w : World) (e : Ending) (w' : World) : Prop :=
  e = .returned (.int .i64 r.1) ∧ DkAtM w' D Q M (ExtC S w w') r.2.1 ∧ PwAt w' Q r.2.2 ∧ Chg (fun k => S k ∨ k = Q) w w'
theorem armed_off {w : World} {D Q M : Nat} {v : Value} {to : Nat} {S : Nat → Prop} {s : Dsk} (h : DkIn w D Q M v to S s) : DkAtM (w.setCell ⟨D, 6, none⟩ (.bool false)) D Q M S { s with astray := none } := by
  obtain ⟨k1, k2, k3⟩ := h.keep (d_chg1 6 (.bool false))
  exact ⟨v, to, ⟨h.blk.set 6 _, k1, k2, h.sd, h.sm, h.sq, k3, h.tlt, (fun t e => by cases e), h.nlt⟩⟩
theorem lose_off {w : World} {D Q M : Nat} {v : Value} {to : Nat} {S : Nat → Prop} {s : Dsk} (h : DkIn w D Q M v to S s) : DkAtM (w.setCell ⟨D, 5, none⟩ (.bool false)) D Q M S { s with lose := false } := by
  obtain ⟨k1, k2, k3⟩ := h.keep (d_chg1 5 (.bool false))
  exact ⟨v, to, ⟨h.blk.set 5 _, k1, k2, h.sd, h.sm, h.sq, k3, h.tlt, h.teq, h.nlt⟩⟩
theorem DkIn.power {w w' : World} {D Q M : Nat} {v : Value} {to : Nat} {S : Nat → Prop} {s : Dsk} (h : DkIn w D Q M v to S s) (hc : Chg (fun k => k = Q) w w') : DkIn w' D Q M v to S s :=
  ⟨h.blk.chg hc (fun e => h.sq (e ▸ h.sd)), h.map.chg hc (fun e => h.sq (e ▸ h.sm)), h.cache.chg hc (fun k hk e => h.sq (e ▸ hk)), h.sd, h.sm, h.sq, fun k hk => Nat.lt_of_lt_of_le (h.lt k hk) hc.size, h.tlt, h.teq, h.nlt⟩
set_option maxRecDepth 100000 in
set_option maxHeartbeats 4000000 in
theorem d_write_anyC (D Q M : Nat) (S : Nat → Prop) (s : Dsk) (p : Pw) (ad : Nat) (b : d_Bs) (sp : Option Addr) (n cap : Nat) (ha : ad < 65536) (hbn : b.length = n) (w : World) (hS : SrcA w sp b) (h : DkAtM w D Q M S s) (hp : PwAt w Q p) (hcn : s.cache.length < 1000000) :
    Calls Tryz.prog 49 #[.pointer (some ⟨D, 0, none⟩), .int .u16 (ad : Int), .slice sp n cap] w (WroteC D Q M S (wrote s p ad b) w) := by
  have H := Lib.hid h
  have HP := Lib.hid hp
  have HS := Lib.hid hS
  have HCN := Lib.hid hcn
  have HBN := Lib.hid hbn
  have hq := hp.blk.lt
  obtain ⟨v, to, hin⟩ := h
  have c0 := hin.c.1
  have HIN := Lib.hid hin
  clear hin hcn hp hS
  unfold wrote
  rcases idle_cases s p with hi | hi
  · rw [hi]
    simp only [ne_eq, not_true_eq_false, if_false]
    by_cases hn : ad < s.n
    · have hde : decide (ad < s.n) = true := by simpa using hn
      by_cases h5 : n = 512
      · rw [if_pos ⟨hn, by omega⟩]
        have hb5 : b.length = 512 := by omega
        have HB5 := Lib.hid hb5
        subst h5
        clear hb5 hbn hn
        obtain ⟨p', hp'⟩ : ∃ p', p.step = p' := ⟨_, rfl⟩
        obtain ⟨ok, q'⟩ := p'
        rw [hp']
        have HPS := Lib.hid hp'
        clear hp'
        simp only
        obtain ⟨lo, hlo⟩ : ∃ lo, s.lose = lo := ⟨_, rfl⟩
        obtain ⟨ast, hast⟩ : ∃ ast, s.astray = ast := ⟨_, rfl⟩
        rw [hlo, hast]
        cases ok
        · simp only [if_true]
          go_enter Tryz.func49, Tryz.ntmps49
          go_wp2_with (first | (go_at_call 65; refine (idle_any D Q S s p _ H.out.at' HP.out).mono ?_; rw [hi]; rintro e w' ⟨rfl, rfl⟩) | (go_at_call 71; refine (d_has_any D Q S s ad ha _ H.out.at').mono ?_; rw [hde]; rintro e w' ⟨rfl, rfl⟩) | (go_at_call 66; refine (step_any Q p _ HP.out).mono ?_; rw [HPS.out]; rintro e w1 ⟨rfl, hp1, hc1⟩; have HP1 := Lib.hid hp1; have HC1 := Lib.hid hc1; have HI1 := Lib.hid (HIN.out.power hc1); have c51 := HI1.out.c.2.2.2.2.2.1; have c61 := HI1.out.c.2.2.2.2.2.2.1; have c71 := HI1.out.c.2.2.2.2.2.2.2; rw [hlo] at c51; rw [hast] at c61; have f5 := HI1.out.blk.free 5; have f6 := HI1.out.blk.free 6; clear hp1 hc1) | fail)
          go_ret
          have hk1 : DkAtM w1 D Q M S s := ⟨v, to, HI1.out⟩
          exact ⟨rfl, hk1.extC hq, HP1.out, HC1.out.justQ⟩
        · simp only [Bool.true_eq_false, if_false]
          cases lo
          · simp only [Bool.false_eq_true, if_false]
            cases ast with
            | none =>
              go_enter Tryz.func49, Tryz.ntmps49
              go_wp2_with (first | (go_at_call 65; refine (idle_any D Q S s p _ H.out.at' HP.out).mono ?_; rw [hi]; rintro e w' ⟨rfl, rfl⟩) | (go_at_call 71; refine (d_has_any D Q S s ad ha _ H.out.at').mono ?_; rw [hde]; rintro e w' ⟨rfl, rfl⟩) | (go_at_call 66; refine (step_any Q p _ HP.out).mono ?_; rw [HPS.out]; rintro e w1 ⟨rfl, hp1, hc1⟩; have HP1 := Lib.hid hp1; have HC1 := Lib.hid hc1; have HI1 := Lib.hid (HIN.out.power hc1); have c51 := HI1.out.c.2.2.2.2.2.1; have c61 := HI1.out.c.2.2.2.2.2.2.1; have c71 := HI1.out.c.2.2.2.2.2.2.2; rw [hlo] at c51; rw [hast] at c61; have f5 := HI1.out.blk.free 5; have f6 := HI1.out.blk.free 6; clear hp1 hc1) | (go_at_call 89; refine (keep_anyC D Q M S (s) (ad) b sp cap ha HB5.out _ (HS.out.chg HC1.out HP.out.no8) ⟨v, to, HI1.out⟩ HP1.out.blk.lt HCN.out).mono ?_; rintro e w3 ⟨rfl, hd3, hc3⟩; have HD3 := Lib.hid hd3; have HC3 := Lib.hid hc3; clear hd3 hc3) | fail)
              go_ret
              refine ⟨rfl, HD3.out.mono (ExtC.trans HC1.out.size) (fun hh => ?_) (fun k hk => ?_), HP1.out.chg HC3.out (HI1.out.sq), HC1.out.justQ.trans' HC3.out.withQ⟩
              · rcases hh with hh | hh
                · exact HI1.out.sq hh
                · have := hh.1; omega
              · rcases hk with hk | hk
                · exact Nat.lt_of_lt_of_le (HI1.out.lt k hk) HC3.out.size
                · obtain ⟨_, _, _, hb⟩ := hk; exact hb.lt
            | some t =>
              have htt := HIN.out.teq t hast
              subst htt
              have htl := HIN.out.tlt
              go_enter Tryz.func49, Tryz.ntmps49
              go_wp2_with (first | (go_at_call 65; refine (idle_any D Q S s p _ H.out.at' HP.out).mono ?_; rw [hi]; rintro e w' ⟨rfl, rfl⟩) | (go_at_call 71; refine (d_has_any D Q S s ad ha _ H.out.at').mono ?_; rw [hde]; rintro e w' ⟨rfl, rfl⟩) | (go_at_call 66; refine (step_any Q p _ HP.out).mono ?_; rw [HPS.out]; rintro e w1 ⟨rfl, hp1, hc1⟩; have HP1 := Lib.hid hp1; have HC1 := Lib.hid hc1; have HI1 := Lib.hid (HIN.out.power hc1); have c51 := HI1.out.c.2.2.2.2.2.1; have c61 := HI1.out.c.2.2.2.2.2.2.1; have c71 := HI1.out.c.2.2.2.2.2.2.2; rw [hlo] at c51; rw [hast] at c61; have f5 := HI1.out.blk.free 5; have f6 := HI1.out.blk.free 6; clear hp1 hc1) | (go_at_call 89; refine (keep_anyC D Q M S ({ s with astray := none }) (to) b sp cap htl HB5.out _ ((HS.out.chg HC1.out HP.out.no8).chg (d_chg1 6 (.bool false)) (DkAt.no8 ⟨M, v, to, HI1.out⟩)) (armed_off HI1.out) (Nat.lt_of_lt_of_le HP1.out.blk.lt (d_chg1 6 (.bool false)).size) HCN.out).mono ?_; rintro e w3 ⟨rfl, hd3, hc3⟩; have HD3 := Lib.hid hd3; have HC3 := Lib.hid hc3; clear hd3 hc3) | fail)
              go_ret
              have hsz : w1.heap.size ≤ (w1.setCell ⟨D, 6, none⟩ (.bool false)).heap.size := (d_chg1 (D := D) (w := w1) 6 (.bool false)).size
              have hd3 := HD3.out
              rw [hlo] at hd3
              refine ⟨rfl, hd3.mono (ExtC.trans (Nat.le_trans HC1.out.size hsz)) (fun hh => ?_) (fun k hk => ?_), (HP1.out.chg (d_chg1 6 (.bool false)) (fun e => HI1.out.sq (e ▸ HI1.out.sd))).chg HC3.out (HI1.out.sq), (HC1.out.justQ.trans' (chgD HI1.out.sd 6 _).withQ).trans' HC3.out.withQ⟩
              · rcases hh with hh | hh
                · exact HI1.out.sq hh
                · have := hh.1; omega
              · rcases hk with hk | hk
                · exact Nat.lt_of_lt_of_le (HI1.out.lt k hk) (Nat.le_trans hsz HC3.out.size)
                · obtain ⟨_, _, _, hb⟩ := hk; exact hb.lt
          · simp only [if_true]
            go_enter Tryz.func49, Tryz.ntmps49
            go_wp2_with (first | (go_at_call 65; refine (idle_any D Q S s p _ H.out.at' HP.out).mono ?_; rw [hi]; rintro e w' ⟨rfl, rfl⟩) | (go_at_call 71; refine (d_has_any D Q S s ad ha _ H.out.at').mono ?_; rw [hde]; rintro e w' ⟨rfl, rfl⟩) | (go_at_call 66; refine (step_any Q p _ HP.out).mono ?_; rw [HPS.out]; rintro e w1 ⟨rfl, hp1, hc1⟩; have HP1 := Lib.hid hp1; have HC1 := Lib.hid hc1; have HI1 := Lib.hid (HIN.out.power hc1); have c51 := HI1.out.c.2.2.2.2.2.1; have c61 := HI1.out.c.2.2.2.2.2.2.1; have c71 := HI1.out.c.2.2.2.2.2.2.2; rw [hlo] at c51; rw [hast] at c61; have f5 := HI1.out.blk.free 5; have f6 := HI1.out.blk.free 6; clear hp1 hc1) | fail)
            go_ret
            have hd3 := lose_off HI1.out
            rw [hast] at hd3
            exact ⟨rfl, hd3.extC hq, HP1.out.chg (d_chg1 5 (.bool false)) (fun e => HI1.out.sq (e ▸ HI1.out.sd)), HC1.out.justQ.trans' (chgD HI1.out.sd 5 _).withQ⟩
      · rw [if_neg (fun hh => h5 (by omega))]
        clear hn hbn
        go_enter Tryz.func49, Tryz.ntmps49
        go_wp2_with (first | (go_at_call 65; refine (idle_any D Q S s p _ H.out.at' HP.out).mono ?_; rw [hi]; rintro e w' ⟨rfl, rfl⟩) | (go_at_call 71; refine (d_has_any D Q S s ad ha _ H.out.at').mono ?_; rw [hde]; rintro e w' ⟨rfl, rfl⟩) | fail)
        go_ret
        exact ⟨rfl, H.out.extC hq, HP.out, Chg.refl _ _⟩
    · rw [if_neg (fun hh => hn hh.1)]
      have hde : decide (ad < s.n) = false := by simpa using hn
      clear hn hbn
      go_enter Tryz.func49, Tryz.ntmps49
      go_wp2_with (first | (go_at_call 65; refine (idle_any D Q S s p _ H.out.at' HP.out).mono ?_; rw [hi]; rintro e w' ⟨rfl, rfl⟩) | (go_at_call 71; refine (d_has_any D Q S s ad ha _ H.out.at').mono ?_; rw [hde]; rintro e w' ⟨rfl, rfl⟩) | fail)
      go_ret
      exact ⟨rfl, H.out.extC hq, HP.out, Chg.refl _ _⟩
  · rw [hi]
    rw [if_pos (by decide)]
    go_enter Tryz.func49, Tryz.ntmps49
    go_wp2_with (first | (go_at_call 65; refine (idle_any D Q S s p _ H.out.at' HP.out).mono ?_; rw [hi]; rintro e w' ⟨rfl, rfl⟩) | fail)
    go_ret
    exact ⟨rfl, H.out.extC hq, HP.out, Chg.refl _ _⟩
theorem d_write_any (D Q : Nat) (S : Nat → Prop) (s : Dsk) (p : Pw) (ad : Nat) (b : d_Bs) (sp : Option Addr) (n cap : Nat) (ha : ad < 65536) (hbn : b.length = n) (w : World) (hS : SrcA w sp b) (h : DkAt w D Q S s) (hp : PwAt w Q p) (hcn : s.cache.length < 1000000) :
    Calls Tryz.prog 49 #[.pointer (some ⟨D, 0, none⟩), .int .u16 (ad : Int), .slice sp n cap] w (Wrote D Q S (wrote s p ad b) w) :=
  by
  obtain ⟨M, h⟩ := h
  exact (d_write_anyC D Q M S s p ad b sp n cap ha hbn w hS h hp hcn).mono fun _ _ ⟨h1, h2, h3, h4⟩ => ⟨h1, h2.at'.ofC hp.blk.lt, h3, h4⟩
end Go.Proofs.YtmgagalhpkieoaaGreatDoor
/- Flush and crash; a disk made. -/
namespace Go.Proofs.YtmgagalhpkieoaaGreatDoor
open Go.RowKit

def flushed (s : Dsk) (p : Pw) : Int × Dsk × Pw :=
  if idle s p ≠ 0 then (idle s p, s, p) else
  if p.step.1 = false then (3, s, p.step.2) else (0, { s with mem := settled (fun _ => 512) s.cache s.mem s.cache.length, cache := [] }, p.step.2)
def Did (D Q : Nat) (S : Nat → Prop) (r : Int × Dsk × Pw) (w : World) (e : Ending) (w' : World) : Prop :=
  e = .returned (.int .i64 r.1) ∧ DkAt w' D Q S r.2.1 ∧ PwAt w' Q r.2.2 ∧ Chg (fun k => S k ∨ k = Q) w w'
theorem cf45 (args : Array Value) (w : World) : (callFunc 69 args).run Tryz.prog w = .ok (.enter 69 args) w := by go_simp
theorem cf50 (args : Array Value) (w : World) : (callFunc 68 args).run Tryz.prog w = .ok (.enter 68 args) w := by go_simp
set_option maxRecDepth 100000 in
set_option maxHeartbeats 1000000 in
theorem flush_any (D Q : Nat) (S : Nat → Prop) (s : Dsk) (p : Pw) (w : World) (h : DkAt w D Q S s) (hp : PwAt w Q p) (hcn : s.cache.length < 1000000) :
    Calls Tryz.prog 25 #[.pointer (some ⟨D, 0, none⟩)] w (Did D Q S (flushed s p) w) := by
  have H := Lib.hid h
  have HP := Lib.hid hp
  have HCN := Lib.hid hcn
  obtain ⟨M, v, to, hin⟩ := h
  have c0 := hin.c.1
  clear hin hcn hp
  unfold flushed
  rcases idle_cases s p with hi | hi
  · rw [hi]
    simp only [ne_eq, not_true_eq_false, if_false]
    obtain ⟨p', hp'⟩ : ∃ p', p.step = p' := ⟨_, rfl⟩
    obtain ⟨ok, q'⟩ := p'
    rw [hp']
    have HPS := Lib.hid hp'
    clear hp'
    simp only
    cases ok
    · simp only [if_true]
      go_enter Tryz.func25, Tryz.ntmps25
      go_wp2_with (first | (go_at_call 65; refine (idle_any D Q S s p _ H.out HP.out).mono ?_; rw [hi]; rintro e w' ⟨rfl, rfl⟩) | (go_at_call 66; refine (step_any Q p _ HP.out).mono ?_; rw [HPS.out]; rintro e w1 ⟨rfl, hp1, hc1⟩; have HP1 := Lib.hid hp1; have HC1 := Lib.hid hc1; clear hp1 hc1) | fail)
      go_ret
      exact ⟨rfl, H.out.power HC1.out, HP1.out, HC1.out.justQ⟩
    · simp only [Bool.true_eq_false, if_false]
      go_enter Tryz.func25, Tryz.ntmps25
      go_wp2_with (first | (go_at_call 65; refine (idle_any D Q S s p _ H.out HP.out).mono ?_; rw [hi]; rintro e w' ⟨rfl, rfl⟩) | (go_at_call 66; refine (step_any Q p _ HP.out).mono ?_; rw [HPS.out]; rintro e w1 ⟨rfl, hp1, hc1⟩; have HP1 := Lib.hid hp1; have HC1 := Lib.hid hc1; clear hp1 hc1) | (go_at_call 67; refine (settle_any D Q S s _ 68 #[] (fun _ => True) (fun _ => 512) (H.out.power HC1.out) HCN.out trivial (fun _ _ _ _ => trivial) (fun _ => .inr (by omega)) cf50 (fun i w _ _ => d_all_any _ w)).mono ?_; rintro e w2 ⟨rfl, hd2, hc2⟩; have HD2 := Lib.hid hd2; have HC2 := Lib.hid hc2; clear hd2 hc2) | fail)
      go_ret
      exact ⟨rfl, HD2.out, HP1.out.chg HC2.out H.out.nq, HC1.out.justQ.trans' HC2.out.withQ⟩
  · rw [hi]
    rw [if_pos (by decide)]
    go_enter Tryz.func25, Tryz.ntmps25
    go_wp2_with (first | (go_at_call 65; refine (idle_any D Q S s p _ H.out HP.out).mono ?_; rw [hi]; rintro e w' ⟨rfl, rfl⟩) | fail)
    go_ret
    exact ⟨rfl, H.out, HP.out, Chg.refl _ _⟩

def crashed (s : Dsk) (zs : List Int) : Dsk := if s.dead then s else { s with mem := settled (pickOf zs) s.cache s.mem s.cache.length, cache := [], lose := false, astray := none }
theorem left_bounds (z : Int) : left z = -1 ∨ (0 ≤ left z ∧ left z ≤ 512) := by
  unfold left
  split
  · exact .inl rfl
  · split
    · exact .inr (by omega)
    · exact .inr (by omega)
theorem pickOf_bounds (zs : List Int) (i : Nat) : pickOf zs i = -1 ∨ (0 ≤ pickOf zs i ∧ pickOf zs i ≤ 512) := by
  unfold pickOf
  split
  · exact left_bounds _
  · exact .inl rfl
theorem SrcI.chg {F : Nat → Prop} {w w' : World} {sp : Option Addr} {zs : List Int} (h : SrcI w sp zs) (hc : Chg F w w') (hn : ∀ a, sp = some a → ¬ F a.block) : SrcI w' sp zs :=
  ⟨h.1, fun h0 => by
    obtain ⟨g, o, rfl, hg, hcl⟩ := h.2 h0
    exact ⟨g, o, rfl, Nat.lt_of_lt_of_le hg hc.size, fun j hj => (World.cell?_of_block (w := w) (hc.block g hg (hn _ rfl))).trans (hcl j hj)⟩⟩
theorem crash_off {w : World} {D Q M : Nat} {v : Value} {to : Nat} {S : Nat → Prop} {s : Dsk} (h : DkIn w D Q M v to S s) : DkAt ((w.setCell ⟨D, 5, none⟩ (.bool false)).setCell ⟨D, 6, none⟩ (.bool false)) D Q S { s with lose := false, astray := none } := by
  obtain ⟨k1, k2, k3⟩ := h.keep ((d_chg1 5 (.bool false)).trans' (d_chg1 6 (.bool false)))
  exact ⟨M, v, to, ⟨(h.blk.set 5 _).set 6 _, k1, k2, h.sd, h.sm, h.sq, k3, h.tlt, (fun t e => by cases e), h.nlt⟩⟩
end Go.Proofs.YtmgagalhpkieoaaGreatDoor
/- What a fault does to an address. -/
namespace Go.Proofs.YtmgagalhpkieoaaGreatDoor
open Go.RowKit

def CacheIn (w : World) (S R : Nat → Prop) (v : Value) (l : List (Nat × d_Bs)) : Prop :=
  ∃ L : List (Nat × Nat × d_Bs), L.map (fun x => (x.1, x.2.2)) = l ∧ Writes w S L ∧
    ((∃ sp, v = .slice sp 0 0 ∧ L = []) ∨ (w.ownsRow 0 187 2 v L.length (crow L) ∧ ∃ g, v.ownBlock = some g ∧ R g))
theorem CacheIn.at {w : World} {S R S' : Nat → Prop} {v : Value} {l : List (Nat × d_Bs)} (h : CacheIn w S R v l) (h1 : ∀ k, S k → S' k) (h2 : ∀ k, R k → S' k) : CacheAt w S' v l := by
  obtain ⟨L, e1, e2, e3⟩ := h
  refine ⟨L, e1, e2.mono h1, ?_⟩
  rcases e3 with h3 | ⟨h3, g, h4, h5⟩
  · exact .inl h3
  · exact .inr ⟨h3, g, h4, h2 _ h5⟩
theorem CacheIn.form {S R : Nat → Prop} {w : World} {v : Value} {l : List (Nat × d_Bs)} (h : CacheIn w S R v l) : ∃ sp cap, v = .slice sp l.length cap ∧ l.length ≤ cap ∧ cap ≤ maxLen := (h.at (S' := fun _ => True) (fun _ _ => trivial) (fun _ _ => trivial)).form
theorem CacheIn.chg {F S R R' : Nat → Prop} {w w' : World} {v : Value} {l : List (Nat × d_Bs)} (h : CacheIn w S R v l) (hc : Chg F w w') (h5 : ∀ k cs, F k → ¬ Blk w k cs 5) (h100 : ∀ k cs, F k → ¬ Blk w k cs 187) (hR : ∀ k, R k → R' k) : CacheIn w' S R' v l := by
  obtain ⟨L, e1, e2, e3⟩ := h
  refine ⟨L, e1, e2.turned hc h5, ?_⟩
  rcases e3 with h3 | ⟨h3, g, h4, h6⟩
  · exact .inl h3
  · refine .inr ⟨owns_chg h3 hc (fun g' hg' hf => ?_), g, h4, hR _ h6⟩
    obtain ⟨cs, hb⟩ := owns_blk h3 hg'
    exact h100 _ _ hf hb
theorem app_cacheR {w : World} {S R : Nat → Prop} {v : Value} {l : List (Nat × d_Bs)} (h : CacheIn w S R v l) {ad gb : Nat} {b : d_Bs} (had : ad < 65536) (hb : b.length = 512) (hblk : Blk w gb (b.map V8) 5) (hgS : S gb) {adr : Addr} {c : Nat}
    (hnews : ∀ j u, (wcells ad gb)[j]? = some u → w.cell? (adr.add j) = some u) (hl : l.length < 1000000) (ty : TypeId) :
    ∃ v' w', (Builtin.append_ #[140, 140] ty #[v, .slice (some adr) 1 c]).run Tryz.prog w = .ok v' w' ∧ (∀ R' : Nat → Prop, (∀ k, R k → R' k) → (w.heap.size < w'.heap.size → R' w.heap.size) → CacheIn w' S R' v' (l ++ [(ad, b)])) ∧ Chg (Rows100 w R) w w' := by
  obtain ⟨i, hi, hz0, hz1, hz2⟩ : ∃ i, Tryz.prog.info? 187 = some i ∧ i.zero = some (.agg #[.int .u16 0, .slice none 0 0]) ∧ i.size = 2 ∧ i.bytes = 32 := by
    have := infoW
    cases hq : Tryz.prog.info? 187 with
    | none => rw [hq] at this; simp at this
    | some i =>
      rw [hq] at this
      simp at this
      exact ⟨i, rfl, this.1, this.2.1, this.2.2⟩
  obtain ⟨L, rfl, hw, h3⟩ := h
  rw [List.length_map] at hl
  have fin : ∀ (v' : Value) (w' : World), w'.ownsRow 0 187 2 v' (L.length + 1) (crow L ++ wcells ad gb) → Chg (Rows100 w R) w w' → (∀ g, v'.ownBlock = some g → R g ∨ g = w.heap.size) →
      ∀ R' : Nat → Prop, (∀ k, R k → R' k) → (w.heap.size < w'.heap.size → R' w.heap.size) → CacheIn w' S R' v' (L.map (fun x => (x.1, x.2.2)) ++ [(ad, b)]) := by
    intro v' w' ho hc hwh R' h1 h4
    refine ⟨L ++ [(ad, gb, b)], by simp, ?_, .inr ⟨?_, ?_⟩⟩
    · have hbyte : ∀ k cs, Rows100 w R k → ¬ Blk w k cs 5 := fun k cs ⟨_, cs', hb'⟩ hb'' => by
        have e := hb'.same hb''
        exact absurd e (by decide)
      intro x hx
      rcases List.mem_append.1 hx with hx | hx
      · exact (hw.turned hc hbyte) x hx
      · obtain rfl : x = (ad, gb, b) := by simpa using hx
        exact ⟨had, hb, hblk.chg hc (fun hf => hbyte _ _ hf hblk), hgS⟩
    · rw [List.length_append, crow_snoc]
      exact ho
    · obtain ⟨g, hg, hgl⟩ := owns_form ho (by omega)
      refine ⟨g, hg, ?_⟩
      rcases hwh g hg with h5 | rfl
      · exact h1 _ h5
      · exact h4 hgl
  rcases h3 with ⟨sp, rfl, rfl⟩ | ⟨ho, g, hg, hSg⟩
  · cases sp with
    | none =>
      obtain ⟨v', w', hr, h2, h3, h4, h5⟩ := run_append_own_at (P := Tryz.prog) w 0 140 ty 187 i _ 2 32 Tryz.underlying140 hi hz0 hz1 hz2 rfl (by decide) (.slice none 0 0) 0 [] (World.ownsRow_nil _ _ _ _) adr 1 c (wcells ad gb) rfl hnews (one_wcells _ _) (by unfold maxLen; omega) (by omega) (Nat.zero_le _)
      have hc : Chg (Rows100 w R) w w' := (Chg.refl _ w).grown h3 (fun k hk => by cases hk)
      refine ⟨v', w', hr, fin v' w' h2 hc (fun g hg => ?_), hc⟩
      rcases h5 with h5 | h5
      · rw [h5] at hg; cases hg
      · rw [h5] at hg; cases hg; exact .inr rfl
    | some ad0 =>
      have hr := run_append_grow (P := Tryz.prog) w 140 ty 187 i _ Tryz.underlying140 hi hz0 ad0 0 0 [] (by simp) (fun j v hv => by simp at hv) adr 1 c (wcells ad gb) (by rw [hz1]; rfl) hnews (by omega) (by omega) (growslice_fits (by omega) (by rw [hz2]; omega))
      have hc : Chg (Rows100 w R) w (w.drew.alloc (.cells (#[] ++ (wcells ad gb).toArray ++ Builtin.zeroCells (Value.agg #[.int .u16 0, .slice none 0 0]).cells (grownCap w 1 0 187 - 1)) 187)) := ((Chg.refl _ w).drew).alloc _
      refine ⟨_, _, hr, fin _ _ ?_ hc (fun g hg => by simp [Value.ownBlock] at hg; exact .inr hg.symm), hc⟩
      have hge := grownCap_ge w 1 0 187
      refine ⟨rfl, .inr ⟨w.heap.size, _, _, rfl, Nat.zero_le _, heap_alloc_new w.drew _, hge, grownCap_le_maxLen w 1 0 187 (by unfold maxLen; omega), ?_, ?_⟩⟩
      · simp only [Array.size_append, List.size_toArray, size_zeroCells]
        simp [Value.cells, wcells]
        omega
      · simp [crow, wcells]
  · obtain ⟨v', w', hr, h2, h3, h4, h5⟩ := run_append_own_at (P := Tryz.prog) w 0 140 ty 187 i _ 2 32 Tryz.underlying140 hi hz0 hz1 hz2 rfl (by decide) v L.length (crow L) ho adr 1 c (wcells ad gb) rfl hnews (one_wcells _ _) (by unfold maxLen; omega) (by omega) (Nat.zero_le _)
    have hc : Chg (Rows100 w R) w w' := (Chg.refl _ w).grown h3 (fun k hk => by rw [hg] at hk; cases hk; exact .inl ⟨hSg, owns_blk ho hg⟩)
    refine ⟨v', w', hr, fin v' w' h2 hc (fun g' hg' => ?_), hc⟩
    rcases h5 with h5 | h5
    · rw [h5, hg] at hg'; cases hg'; exact .inl hSg
    · rw [h5] at hg'; cases hg'; exact .inr rfl

def others (l : List (Nat × d_Bs)) (a : Nat) : List (Nat × d_Bs) := l.filter (fun x => x.1 != a)
theorem others_snoc (l : List (Nat × d_Bs)) (x : Nat × d_Bs) (a : Nat) : others (l ++ [x]) a = if x.1 = a then others l a else others l a ++ [x] := by
  unfold others
  rw [List.filter_append]
  by_cases h : x.1 = a
  · rw [if_pos h]; simp [h]
  · rw [if_neg h]; simp [h]
def ailed (s : Dsk) (a n : Nat) (ft : Bk → Bk) : Int × Dsk := if a < s.n ∧ n = 512 then (0, { s with mem := Upd s.mem a (ft (s.mem a)), cache := others s.cache a }) else (1, s)
theorem Taken.round {F S : Nat → Prop} {B D : Nat} {w w' : World} {v : Value} {L : List (Nat × Nat × d_Bs)} {cs : List Value} (h : Taken w v S L) (hc : Chg F w w') (hF : ∀ k, F k → k = D ∨ B ≤ k) (hS : ∀ k, S k → k < B) (hD : Blk w D cs 142) : Taken w' v S L := by
  refine ⟨fun x hx => ?_, ?_⟩
  · obtain ⟨h1, h2, h3, h4⟩ := h.1 x hx
    refine ⟨h1, h2, h3.chg hc (fun hf => ?_), h4⟩
    rcases hF _ hf with e | e
    · rw [e] at h3; exact absurd (h3.same hD) (by decide)
    · have := hS _ h4; omega
  · rcases h.2 with h3 | ⟨h3, g, h4, h5⟩
    · exact .inl h3
    · refine .inr ⟨owns_chg h3 hc (fun g' hg' hf => ?_), g, h4, h5⟩
      have e1 : g' = g := by rw [h4] at hg'; cases hg'; rfl
      subst e1
      rcases hF _ hf with e | e
      · obtain ⟨cs', hb⟩ := owns_blk h3 h4
        rw [e] at hb
        exact absurd (hb.same hD) (by decide)
      · have := hS _ h5; omega
def Since (B : Nat) (w : World) (k : Nat) : Prop := B ≤ k ∧ k < w.heap.size
structure AilAt (w1 wr : World) (D Q M to : Nat) (S : Nat → Prop) (s : Dsk) (mem : Nat → Bk) (v vc : Value) (L : List (Nat × Nat × d_Bs)) (l : List (Nat × d_Bs)) : Prop where
  blk : Blk wr D (dcells Q M vc to s) 142
  map : MapAt wr M mem
  cache : CacheIn wr S (Since w1.heap.size wr) vc l
  taken : Taken wr v S L
  chg : Chg (fun k => k = D) w1 wr
def AilRel (w1 : World) (D Q M to : Nat) (S : Nat → Prop) (s : Dsk) (ad : Nat) (mem : Nat → Bk) (v : Value) (L : List (Nat × Nat × d_Bs)) (i : Value) (wr : World) : Prop :=
  ∃ k : Nat, k ≤ L.length ∧ i = .int .i64 (k : Int) ∧ ∃ vc, AilAt w1 wr D Q M to S s mem v vc L (others (s.cache.take k) ad)
theorem AilAt.step {w1 wr w' : World} {D Q M to : Nat} {S : Nat → Prop} {s : Dsk} {mem : Nat → Bk} {v vc : Value} {L : List (Nat × Nat × d_Bs)} {l : List (Nat × d_Bs)} (h : AilAt w1 wr D Q M to S s mem v vc L l) (hb : Below wr.heap.size wr w') : AilAt w1 w' D Q M to S s mem v vc L l :=
  ⟨h.blk.below hb h.blk.lt, h.map.kept (hb.block _ h.map.lt), h.cache.chg (Chg.of_below (F := fun _ => False) hb) (fun _ _ hf => hf.elim) (fun _ _ hf => hf.elim) (fun k hk => ⟨hk.1, Nat.lt_of_lt_of_le hk.2 hb.size⟩),
    h.taken.turned (Chg.of_below (F := fun _ => False) hb) (fun _ _ hf => hf.elim) (fun _ _ hf => hf.elim), h.chg.trans' (Chg.of_below hb)⟩
theorem AilAt.put {w1 wr w5 : World} {D Q M to : Nat} {S : Nat → Prop} {s : Dsk} {mem : Nat → Bk} {v vc v' : Value} {L : List (Nat × Nat × d_Bs)} {l l' : List (Nat × d_Bs)} (h : AilAt w1 wr D Q M to S s mem v vc L l) (hS : ∀ k, S k → k < w1.heap.size)
    (hc : Chg (Rows100 wr (Since w1.heap.size wr)) wr w5) (hcc : CacheIn w5 S (Since w1.heap.size w5) v' l') : AilAt w1 (w5.setCell ⟨D, 3, none⟩ v') D Q M to S s mem v v' L l' := by
  have hnoD : ¬ Rows100 wr (Since w1.heap.size wr) D := fun ⟨_, cs, hb⟩ => absurd (hb.same h.blk) (by decide)
  have hb5 := h.blk.chg hc hnoD
  have hm5 := h.map.chg hc (fun ⟨_, cs, hb⟩ => h.map.noBlk hb)
  have ht5 := h.taken.round hc (D := D) (fun k hk => .inr hk.1.1) hS h.blk
  have hc1 : Chg (fun k => k = D) w5 (w5.setCell ⟨D, 3, none⟩ v') := d_chg1 3 v'
  have h75 : ∀ k (t : Nat) cs, k = D → Blk w5 k cs t → t = 142 := fun k t cs e hb => by subst e; exact hb.same hb5
  refine ⟨hb5.set 3 _, hm5.chg hc1 (fun e => by rw [e] at hm5; exact hm5.noBlk hb5), hcc.chg hc1 (fun k cs e hb => by have := h75 k _ cs e hb; omega) (fun k cs e hb => by have := h75 k _ cs e hb; omega) (fun k hk => ⟨hk.1, Nat.lt_of_lt_of_le hk.2 hc1.size⟩), ht5.round hc1 (D := D) (fun k hk => .inl hk) hS hb5, ?_⟩
  exact (h.chg.trans hc (fun i hi => .inr hi.1.1)).trans' hc1
theorem size100 : (Tryz.prog.info? 187).map (·.size) = some 2 := by kernel_rfl
theorem ex_ld100 {ρ : Operand → Value} {o : Oper} {x : Operand} {g ad gb : Nat} {w : World} (ho : o.op = .load 187 x) (hx : ρ x = .pointer (some ⟨g, 0, none⟩)) (hb : Blk w g (wcells ad gb) 187) :
    (execOp ρ o).run Tryz.prog w = .ok (.value (.agg (wcells ad gb).toArray)) w := by
  have hr := run_loadVar_row (P := Tryz.prog) w g 187 187 (wcells ad gb).toArray (0, 0) _ hb Tryz.underlying187 rfl (by rw [size100]; rfl)
  unfold execOp
  simp only [ho, hx, Instr.loadAt, Instr.sureAddr, Sem.run_bind, Sem.run_pure, Result.andThen_ok, hr]
end Go.Proofs.YtmgagalhpkieoaaGreatDoor
