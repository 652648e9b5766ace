/- A disk made, looked at, read, written, flushed. -/
import Derived.Test.YtmgagalhpkieoaaDoorM05
namespace Go.Proofs.YtmgagalhpkieoaaDoor
open Go.RowKit

def look (s : Dsk) (a : Nat) : Option d_Bs := if s.dead then none else if a < s.n then tells s a else none
def readE (s : Dsk) (p : Pw) (a : Nat) : Int := if idle s p ≠ 0 then idle s p else if a < s.n then (if (tells s a).isSome then 0 else 6) else 1
def readB (s : Dsk) (p : Pw) (a : Nat) : Option d_Bs := if idle s p ≠ 0 then none else if a < s.n then tells s a else none
theorem toldB_slice {w0 w : World} {v : Value} {t : Option d_Bs} (h : ToldB w0 w v t) : ∃ sp n cap, v = .slice sp n cap := by
  cases t with
  | none => exact ⟨_, _, _, h⟩
  | some b => obtain ⟨g, h, _⟩ := h; exact ⟨_, _, _, h⟩
theorem look_nil (a : Int) (w : World) : Calls Tryd.prog 19 #[.pointer none, .int .u16 a] w fun e w' => e = .returned (.tuple #[.slice none 0 0, .bool false]) ∧ w = w' := by
  go_enter Tryd.func19, Tryd.ntmps19
  go_wp2_with (first | (go_at_call 33; refine (dead_nil _).mono ?_; rintro e w' ⟨rfl, rfl⟩) | fail)
  go_ret2
  exact ⟨rfl, rfl⟩
theorem read_nil (a : Int) (w : World) : Calls Tryd.prog 62 #[.pointer none, .int .u16 a] w fun e w' => e = .returned (.tuple #[.slice none 0 0, .int .i64 2]) ∧ w = w' := by
  go_enter Tryd.func62, Tryd.ntmps62
  go_wp2_with (first | (go_at_call 43; refine (idle_nil _).mono ?_; rintro e w' ⟨rfl, rfl⟩) | fail)
  go_ret2
  exact ⟨rfl, rfl⟩
theorem write_nil (a : Int) (v : Value) (w : World) : Calls Tryd.prog 29 #[.pointer none, .int .u16 a, v] w fun e w' => e = .returned (.int .i64 2) ∧ w = w' := by
  go_enter Tryd.func29, Tryd.ntmps29
  go_wp2_with (first | (go_at_call 43; refine (idle_nil _).mono ?_; rintro e w' ⟨rfl, rfl⟩) | fail)
  go_ret
  exact ⟨rfl, rfl⟩
theorem flush_nil (w : World) : Calls Tryd.prog 30 #[.pointer none] w fun e w' => e = .returned (.int .i64 2) ∧ w = w' := by
  go_enter Tryd.func30, Tryd.ntmps30
  go_wp2_with (first | (go_at_call 43; refine (idle_nil _).mono ?_; rintro e w' ⟨rfl, rfl⟩) | fail)
  go_ret
  exact ⟨rfl, rfl⟩
theorem look_any (D Q : Nat) (S : Nat → Prop) (s : Dsk) (ad : Nat) (ha : ad < 65536) (w : World) (h : DkAt w D Q S s) (hcn : s.cache.length < 1000000) :
    Calls Tryd.prog 19 #[.pointer (some ⟨D, 0, none⟩), .int .u16 (ad : Int)] w fun e w' => ∃ v, e = .returned (.tuple #[v, .bool (look s ad).isSome]) ∧ ToldB w w' v (look s ad) ∧ Below w.heap.size w w' := by
  have H := Lib.hid h
  have HCN := Lib.hid hcn
  clear h hcn
  unfold look
  by_cases hd : s.dead = true
  · rw [hd]
    simp only [if_true]
    go_enter Tryd.func19, Tryd.ntmps19
    go_wp2_with (first | (go_at_call 33; refine (dead_any D Q S s _ H.out).mono ?_; rw [hd]; rintro e w' ⟨rfl, rfl⟩) | fail)
    go_ret2
    exact ⟨_, rfl, rfl, Below.refl _ _⟩
  · have hd' : s.dead = false := by simpa using hd
    rw [hd']
    simp only [Bool.false_eq_true, if_false]
    clear hd
    by_cases hn : ad < s.n
    · rw [if_pos hn]
      have hde : decide (ad < s.n) = true := by simpa using hn
      clear hn
      go_enter Tryd.func19, Tryd.ntmps19
      go_wp2_with (first | (go_at_call 33; refine (dead_any D Q S s _ H.out).mono ?_; rw [hd']; rintro e w' ⟨rfl, rfl⟩) | (go_at_call 38; refine (d_has_any D Q S s ad ha _ H.out).mono ?_; rw [hde]; rintro e w' ⟨rfl, rfl⟩) | (go_at_call 39; refine (tell_any D Q S s ad ha _ H.out HCN.out).mono ?_; rintro e w' ⟨v, rfl, hv, hw⟩; have HV := Lib.hid hv; have HW := Lib.hid hw; clear hv hw) | fail)
      go_ret2
      exact ⟨_, rfl, HV.out, HW.out⟩
    · rw [if_neg hn]
      have hde : decide (ad < s.n) = false := by simpa using hn
      clear hn
      go_enter Tryd.func19, Tryd.ntmps19
      go_wp2_with (first | (go_at_call 33; refine (dead_any D Q S s _ H.out).mono ?_; rw [hd']; rintro e w' ⟨rfl, rfl⟩) | (go_at_call 38; refine (d_has_any D Q S s ad ha _ H.out).mono ?_; rw [hde]; rintro e w' ⟨rfl, rfl⟩) | fail)
      go_ret2
      exact ⟨_, rfl, rfl, Below.refl _ _⟩
theorem idle_cases (s : Dsk) (p : Pw) : idle s p = 0 ∨ idle s p = 3 := by unfold idle; split; exact .inr rfl; split; exact .inl rfl; exact .inr rfl
theorem read_any (D Q : Nat) (S : Nat → Prop) (s : Dsk) (p : Pw) (ad : Nat) (ha : ad < 65536) (w : World) (h : DkAt w D Q S s) (hp : PwAt w Q p) (hcn : s.cache.length < 1000000) :
    Calls Tryd.prog 62 #[.pointer (some ⟨D, 0, none⟩), .int .u16 (ad : Int)] w fun e w' => ∃ v, e = .returned (.tuple #[v, .int .i64 (readE s p ad)]) ∧ ToldB w w' v (readB s p ad) ∧ Below w.heap.size w w' := by
  have H := Lib.hid h
  have HP := Lib.hid hp
  have HCN := Lib.hid hcn
  clear h hcn hp
  unfold readE readB
  rcases idle_cases s p with hi | hi
  · rw [hi]
    simp only [ne_eq, not_true_eq_false, if_false]
    by_cases hn : ad < s.n
    · rw [if_pos hn, if_pos hn]
      have hde : decide (ad < s.n) = true := by simpa using hn
      clear hn
      obtain ⟨t, ht⟩ : ∃ t, tells s ad = t := ⟨_, rfl⟩
      rw [ht]
      cases t with
      | none =>
        have HT := Lib.hid ht
        clear ht
        go_enter Tryd.func62, Tryd.ntmps62
        go_wp2_with (first | (go_at_call 43; refine (idle_any D Q S s p _ H.out HP.out).mono ?_; rw [hi]; rintro e w' ⟨rfl, rfl⟩) | (go_at_call 38; refine (d_has_any D Q S s ad ha _ H.out).mono ?_; rw [hde]; rintro e w' ⟨rfl, rfl⟩) | (go_at_call 39; refine (tell_any D Q S s ad ha _ H.out HCN.out).mono ?_; rw [HT.out]; rintro e w' ⟨v, rfl, hv, hw⟩; have HV := Lib.hid hv; have HW := Lib.hid hw; clear hv hw) | fail)
        go_ret2
        exact ⟨_, rfl, rfl, HW.out⟩
      | some b =>
        have HT := Lib.hid ht
        clear ht
        go_enter Tryd.func62, Tryd.ntmps62
        go_wp2_with (first | (go_at_call 43; refine (idle_any D Q S s p _ H.out HP.out).mono ?_; rw [hi]; rintro e w' ⟨rfl, rfl⟩) | (go_at_call 38; refine (d_has_any D Q S s ad ha _ H.out).mono ?_; rw [hde]; rintro e w' ⟨rfl, rfl⟩) | (go_at_call 39; refine (tell_any D Q S s ad ha _ H.out HCN.out).mono ?_; rw [HT.out]; rintro e w' ⟨v, rfl, hv, hw⟩; have HV := Lib.hid hv; have HW := Lib.hid hw; clear hv hw) | fail)
        go_ret2
        exact ⟨_, rfl, HV.out, HW.out⟩
    · rw [if_neg hn, if_neg hn]
      have hde : decide (ad < s.n) = false := by simpa using hn
      clear hn
      go_enter Tryd.func62, Tryd.ntmps62
      go_wp2_with (first | (go_at_call 43; refine (idle_any D Q S s p _ H.out HP.out).mono ?_; rw [hi]; rintro e w' ⟨rfl, rfl⟩) | (go_at_call 38; refine (d_has_any D Q S s ad ha _ H.out).mono ?_; rw [hde]; rintro e w' ⟨rfl, rfl⟩) | fail)
      go_ret2
      exact ⟨_, rfl, rfl, Below.refl _ _⟩
  · rw [hi]
    rw [if_pos (by decide), if_pos (by decide)]
    go_enter Tryd.func62, Tryd.ntmps62
    go_wp2_with (first | (go_at_call 43; refine (idle_any D Q S s p _ H.out HP.out).mono ?_; rw [hi]; rintro e w' ⟨rfl, rfl⟩) | fail)
    go_ret2
    exact ⟨_, rfl, rfl, Below.refl _ _⟩
/-- A fresh disk. -/
def fresh (n : Nat) : Dsk := ⟨n, fun _ => blank, [], false, false, none⟩
theorem DkAt.fresh {w : World} {D Q M n : Nat} (hb : Blk w D (dcells Q M (.slice none 0 0) 0 (fresh n)) 111) (hm : MapAt w M (fun _ => blank)) (hq : Q ≠ D) (hq2 : Q ≠ M) (hn : n ≤ 65536) : DkAt w D Q (fun k => k = D ∨ k = M) (fresh n) :=
  ⟨M, .slice none 0 0, 0, hb, hm, ⟨[], rfl, fun x hx => by simp at hx, .inl ⟨none, rfl, rfl⟩⟩, .inl rfl, .inr rfl, fun h => by rcases h with h | h; exact hq h; exact hq2 h, fun k hk => by rcases hk with rfl | rfl; exact hb.lt; exact hm.lt, by omega, fun t e => by simp [Go.Proofs.YtmgagalhpkieoaaDoor.fresh] at e, hn⟩
end Go.Proofs.YtmgagalhpkieoaaDoor
/- Written, flushed, crashed. -/
namespace Go.Proofs.YtmgagalhpkieoaaDoor
open Go.RowKit

theorem SrcA.chg {F : Nat → Prop} {w w' : World} {sp : Option Addr} {b : d_Bs} (h : SrcA w sp b) (hc : Chg F w w') (hF : ∀ g, F g → ∃ cs t, Blk w g cs t ∧ ∀ v ∈ cs, ∀ n, v ≠ .int .u8 n) : SrcA w' sp b := fun h0 => by
  obtain ⟨g, o, rfl, hg, hcl⟩ := h h0
  have hn : ¬ F g := fun hf => by
    obtain ⟨cs, t, hb, hv⟩ := hF g hf
    have h1 := hcl 0 h0
    rw [cell_of_row w g _ _ t _ hb] at h1
    have h2 : cs[o + 0]? = some (V8 (b.getD 0 0)) := by simpa using h1
    exact hv _ (List.mem_of_getElem? h2) _ rfl
  exact ⟨g, o, rfl, Nat.lt_of_lt_of_le hg hc.size, fun j hj => (World.cell?_of_block (w := w) (hc.block g hg hn)).trans (hcl j hj)⟩
theorem PwAt.no8 {w : World} {Q : Nat} {p : Pw} (h : PwAt w Q p) : ∀ g, g = Q → ∃ cs t, Blk w g cs t ∧ ∀ v ∈ cs, ∀ n, v ≠ .int .u8 n := fun g e => by
  subst e
  refine ⟨_, _, h.blk, fun v hv n e => ?_⟩
  subst e
  simp at hv
theorem DkAt.no8 {w : World} {D Q : Nat} {S : Nat → Prop} {s : Dsk} (h : DkAt w D Q S s) : ∀ g, g = D → ∃ cs t, Blk w g cs t ∧ ∀ v ∈ cs, ∀ n, v ≠ .int .u8 n := fun g e => by
  subst e
  obtain ⟨M, v0, to, h⟩ := h
  refine ⟨_, _, h.blk, fun v hv n e => ?_⟩
  subst e
  obtain ⟨sp, cap, rfl, _⟩ := h.cache.form
  simp [dcells] at hv
theorem DkAt.d {w : World} {D Q : Nat} {S : Nat → Prop} {s : Dsk} (h : DkAt w D Q S s) : S D ∧ D < w.heap.size := by obtain ⟨_, _, _, h⟩ := h; exact ⟨h.sd, h.blk.lt⟩
/-- A turn of the power leaves the disk. -/
theorem DkAt.power {w w' : World} {D Q : Nat} {S : Nat → Prop} {s : Dsk} (h : DkAt w D Q S s) (hc : Chg (fun k => k = Q) w w') : DkAt w' D Q S s := h.chg hc (fun k hk e => h.nq (e ▸ hk))
theorem Chg.withQ {S : Nat → Prop} {Q : Nat} {w w' : World} (h : Chg S w w') : Chg (fun k => S k ∨ k = Q) w w' := h.mono (fun _ h => .inl h)
theorem Chg.justQ {S : Nat → Prop} {Q : Nat} {w w' : World} (h : Chg (fun k => k = Q) w w') : Chg (fun k => S k ∨ k = Q) w w' := h.mono (fun _ h => .inr h)
theorem Ext.trans {S : Nat → Prop} {a b c : World} (h : a.heap.size ≤ b.heap.size) : ∀ k, Ext S b c k → Ext S a c k := fun k hk => by rcases hk with hk | hk; exact .inl hk; exact .inr ⟨by omega, hk.2⟩

def wrote (s : Dsk) (p : Pw) (a : Nat) (b : d_Bs) : Int × Dsk × Pw :=
  if idle s p ≠ 0 then (idle s p, s, p) else
  if a < s.n ∧ b.length = 512 then
    (if p.step.1 = false then (3, s, p.step.2) else if s.lose then (0, { s with lose := false }, p.step.2) else
      match s.astray with
      | some t => (0, kept { s with astray := none } t b, p.step.2)
      | none => (0, kept s a b, p.step.2))
  else (1, s, p)
/-- What Write leaves. -/
def Wrote (D Q : Nat) (S : Nat → Prop) (r : Int × Dsk × Pw) (w : World) (e : Ending) (w' : World) : Prop :=
  e = .returned (.int .i64 r.1) ∧ DkAt w' D Q (Ext S w w') r.2.1 ∧ PwAt w' Q r.2.2 ∧ Chg (fun k => S k ∨ k = Q) w w'
/-- .. made since: cells alone. -/
def WroteC (D Q M : Nat) (S : Nat → Prop) (r : Int × Dsk × Pw) (w : World) (e : Ending) (w' : World) : Prop :=
  e = .returned (.int .i64 r.1) ∧ DkAtM w' D Q M (ExtC S w w') r.2.1 ∧ PwAt w' Q r.2.2 ∧ Chg (fun k => S k ∨ k = Q) w w'
theorem armed_off {w : World} {D Q M : Nat} {v : Value} {to : Nat} {S : Nat → Prop} {s : Dsk} (h : DkIn w D Q M v to S s) : DkAtM (w.setCell ⟨D, 6, none⟩ (.bool false)) D Q M S { s with astray := none } := by
  obtain ⟨k1, k2, k3⟩ := h.keep (d_chg1 6 (.bool false))
  exact ⟨v, to, ⟨h.blk.set 6 _, k1, k2, h.sd, h.sm, h.sq, k3, h.tlt, (fun t e => by cases e), h.nlt⟩⟩
theorem lose_off {w : World} {D Q M : Nat} {v : Value} {to : Nat} {S : Nat → Prop} {s : Dsk} (h : DkIn w D Q M v to S s) : DkAtM (w.setCell ⟨D, 5, none⟩ (.bool false)) D Q M S { s with lose := false } := by
  obtain ⟨k1, k2, k3⟩ := h.keep (d_chg1 5 (.bool false))
  exact ⟨v, to, ⟨h.blk.set 5 _, k1, k2, h.sd, h.sm, h.sq, k3, h.tlt, h.teq, h.nlt⟩⟩
theorem DkIn.power {w w' : World} {D Q M : Nat} {v : Value} {to : Nat} {S : Nat → Prop} {s : Dsk} (h : DkIn w D Q M v to S s) (hc : Chg (fun k => k = Q) w w') : DkIn w' D Q M v to S s :=
  ⟨h.blk.chg hc (fun e => h.sq (e ▸ h.sd)), h.map.chg hc (fun e => h.sq (e ▸ h.sm)), h.cache.chg hc (fun k hk e => h.sq (e ▸ hk)), h.sd, h.sm, h.sq, fun k hk => Nat.lt_of_lt_of_le (h.lt k hk) hc.size, h.tlt, h.teq, h.nlt⟩
set_option maxRecDepth 100000 in
set_option maxHeartbeats 4000000 in
theorem d_write_anyC (D Q M : Nat) (S : Nat → Prop) (s : Dsk) (p : Pw) (ad : Nat) (b : d_Bs) (sp : Option Addr) (n cap : Nat) (ha : ad < 65536) (hbn : b.length = n) (w : World) (hS : SrcA w sp b) (h : DkAtM w D Q M S s) (hp : PwAt w Q p) (hcn : s.cache.length < 1000000) :
    Calls Tryd.prog 29 #[.pointer (some ⟨D, 0, none⟩), .int .u16 (ad : Int), .slice sp n cap] w (WroteC D Q M S (wrote s p ad b) w) := by
  have H := Lib.hid h
  have HP := Lib.hid hp
  have HS := Lib.hid hS
  have HCN := Lib.hid hcn
  have HBN := Lib.hid hbn
  have hq := hp.blk.lt
  obtain ⟨v, to, hin⟩ := h
  have c0 := hin.c.1
  have HIN := Lib.hid hin
  clear hin hcn hp hS
  unfold wrote
  rcases idle_cases s p with hi | hi
  · rw [hi]
    simp only [ne_eq, not_true_eq_false, if_false]
    by_cases hn : ad < s.n
    · have hde : decide (ad < s.n) = true := by simpa using hn
      by_cases h5 : n = 512
      · rw [if_pos ⟨hn, by omega⟩]
        have hb5 : b.length = 512 := by omega
        have HB5 := Lib.hid hb5
        subst h5
        clear hb5 hbn hn
        obtain ⟨p', hp'⟩ : ∃ p', p.step = p' := ⟨_, rfl⟩
        obtain ⟨ok, q'⟩ := p'
        rw [hp']
        have HPS := Lib.hid hp'
        clear hp'
        simp only
        obtain ⟨lo, hlo⟩ : ∃ lo, s.lose = lo := ⟨_, rfl⟩
        obtain ⟨ast, hast⟩ : ∃ ast, s.astray = ast := ⟨_, rfl⟩
        rw [hlo, hast]
        cases ok
        · simp only [if_true]
          go_enter Tryd.func29, Tryd.ntmps29
          go_wp2_with (first | (go_at_call 43; refine (idle_any D Q S s p _ H.out.at' HP.out).mono ?_; rw [hi]; rintro e w' ⟨rfl, rfl⟩) | (go_at_call 38; refine (d_has_any D Q S s ad ha _ H.out.at').mono ?_; rw [hde]; rintro e w' ⟨rfl, rfl⟩) | (go_at_call 51; refine (step_any Q p _ HP.out).mono ?_; rw [HPS.out]; rintro e w1 ⟨rfl, hp1, hc1⟩; have HP1 := Lib.hid hp1; have HC1 := Lib.hid hc1; have HI1 := Lib.hid (HIN.out.power hc1); have c51 := HI1.out.c.2.2.2.2.2.1; have c61 := HI1.out.c.2.2.2.2.2.2.1; have c71 := HI1.out.c.2.2.2.2.2.2.2; rw [hlo] at c51; rw [hast] at c61; have f5 := HI1.out.blk.free 5; have f6 := HI1.out.blk.free 6; clear hp1 hc1) | fail)
          go_ret
          have hk1 : DkAtM w1 D Q M S s := ⟨v, to, HI1.out⟩
          exact ⟨rfl, hk1.extC hq, HP1.out, HC1.out.justQ⟩
        · simp only [Bool.true_eq_false, if_false]
          cases lo
          · simp only [Bool.false_eq_true, if_false]
            cases ast with
            | none =>
              go_enter Tryd.func29, Tryd.ntmps29
              go_wp2_with (first | (go_at_call 43; refine (idle_any D Q S s p _ H.out.at' HP.out).mono ?_; rw [hi]; rintro e w' ⟨rfl, rfl⟩) | (go_at_call 38; refine (d_has_any D Q S s ad ha _ H.out.at').mono ?_; rw [hde]; rintro e w' ⟨rfl, rfl⟩) | (go_at_call 51; refine (step_any Q p _ HP.out).mono ?_; rw [HPS.out]; rintro e w1 ⟨rfl, hp1, hc1⟩; have HP1 := Lib.hid hp1; have HC1 := Lib.hid hc1; have HI1 := Lib.hid (HIN.out.power hc1); have c51 := HI1.out.c.2.2.2.2.2.1; have c61 := HI1.out.c.2.2.2.2.2.2.1; have c71 := HI1.out.c.2.2.2.2.2.2.2; rw [hlo] at c51; rw [hast] at c61; have f5 := HI1.out.blk.free 5; have f6 := HI1.out.blk.free 6; clear hp1 hc1) | (go_at_call 52; refine (keep_anyC D Q M S (s) (ad) b sp cap ha HB5.out _ (HS.out.chg HC1.out HP.out.no8) ⟨v, to, HI1.out⟩ HP1.out.blk.lt HCN.out).mono ?_; rintro e w3 ⟨rfl, hd3, hc3⟩; have HD3 := Lib.hid hd3; have HC3 := Lib.hid hc3; clear hd3 hc3) | fail)
              go_ret
              refine ⟨rfl, HD3.out.mono (ExtC.trans HC1.out.size) (fun hh => ?_) (fun k hk => ?_), HP1.out.chg HC3.out (HI1.out.sq), HC1.out.justQ.trans' HC3.out.withQ⟩
              · rcases hh with hh | hh
                · exact HI1.out.sq hh
                · have := hh.1; omega
              · rcases hk with hk | hk
                · exact Nat.lt_of_lt_of_le (HI1.out.lt k hk) HC3.out.size
                · obtain ⟨_, _, _, hb⟩ := hk; exact hb.lt
            | some t =>
              have htt := HIN.out.teq t hast
              subst htt
              have htl := HIN.out.tlt
              go_enter Tryd.func29, Tryd.ntmps29
              go_wp2_with (first | (go_at_call 43; refine (idle_any D Q S s p _ H.out.at' HP.out).mono ?_; rw [hi]; rintro e w' ⟨rfl, rfl⟩) | (go_at_call 38; refine (d_has_any D Q S s ad ha _ H.out.at').mono ?_; rw [hde]; rintro e w' ⟨rfl, rfl⟩) | (go_at_call 51; refine (step_any Q p _ HP.out).mono ?_; rw [HPS.out]; rintro e w1 ⟨rfl, hp1, hc1⟩; have HP1 := Lib.hid hp1; have HC1 := Lib.hid hc1; have HI1 := Lib.hid (HIN.out.power hc1); have c51 := HI1.out.c.2.2.2.2.2.1; have c61 := HI1.out.c.2.2.2.2.2.2.1; have c71 := HI1.out.c.2.2.2.2.2.2.2; rw [hlo] at c51; rw [hast] at c61; have f5 := HI1.out.blk.free 5; have f6 := HI1.out.blk.free 6; clear hp1 hc1) | (go_at_call 52; refine (keep_anyC D Q M S ({ s with astray := none }) (to) b sp cap htl HB5.out _ ((HS.out.chg HC1.out HP.out.no8).chg (d_chg1 6 (.bool false)) (DkAt.no8 ⟨M, v, to, HI1.out⟩)) (armed_off HI1.out) (Nat.lt_of_lt_of_le HP1.out.blk.lt (d_chg1 6 (.bool false)).size) HCN.out).mono ?_; rintro e w3 ⟨rfl, hd3, hc3⟩; have HD3 := Lib.hid hd3; have HC3 := Lib.hid hc3; clear hd3 hc3) | fail)
              go_ret
              have hsz : w1.heap.size ≤ (w1.setCell ⟨D, 6, none⟩ (.bool false)).heap.size := (d_chg1 (D := D) (w := w1) 6 (.bool false)).size
              have hd3 := HD3.out
              rw [hlo] at hd3
              refine ⟨rfl, hd3.mono (ExtC.trans (Nat.le_trans HC1.out.size hsz)) (fun hh => ?_) (fun k hk => ?_), (HP1.out.chg (d_chg1 6 (.bool false)) (fun e => HI1.out.sq (e ▸ HI1.out.sd))).chg HC3.out (HI1.out.sq), (HC1.out.justQ.trans' (chgD HI1.out.sd 6 _).withQ).trans' HC3.out.withQ⟩
              · rcases hh with hh | hh
                · exact HI1.out.sq hh
                · have := hh.1; omega
              · rcases hk with hk | hk
                · exact Nat.lt_of_lt_of_le (HI1.out.lt k hk) (Nat.le_trans hsz HC3.out.size)
                · obtain ⟨_, _, _, hb⟩ := hk; exact hb.lt
          · simp only [if_true]
            go_enter Tryd.func29, Tryd.ntmps29
            go_wp2_with (first | (go_at_call 43; refine (idle_any D Q S s p _ H.out.at' HP.out).mono ?_; rw [hi]; rintro e w' ⟨rfl, rfl⟩) | (go_at_call 38; refine (d_has_any D Q S s ad ha _ H.out.at').mono ?_; rw [hde]; rintro e w' ⟨rfl, rfl⟩) | (go_at_call 51; refine (step_any Q p _ HP.out).mono ?_; rw [HPS.out]; rintro e w1 ⟨rfl, hp1, hc1⟩; have HP1 := Lib.hid hp1; have HC1 := Lib.hid hc1; have HI1 := Lib.hid (HIN.out.power hc1); have c51 := HI1.out.c.2.2.2.2.2.1; have c61 := HI1.out.c.2.2.2.2.2.2.1; have c71 := HI1.out.c.2.2.2.2.2.2.2; rw [hlo] at c51; rw [hast] at c61; have f5 := HI1.out.blk.free 5; have f6 := HI1.out.blk.free 6; clear hp1 hc1) | fail)
            go_ret
            have hd3 := lose_off HI1.out
            rw [hast] at hd3
            exact ⟨rfl, hd3.extC hq, HP1.out.chg (d_chg1 5 (.bool false)) (fun e => HI1.out.sq (e ▸ HI1.out.sd)), HC1.out.justQ.trans' (chgD HI1.out.sd 5 _).withQ⟩
      · rw [if_neg (fun hh => h5 (by omega))]
        clear hn hbn
        go_enter Tryd.func29, Tryd.ntmps29
        go_wp2_with (first | (go_at_call 43; refine (idle_any D Q S s p _ H.out.at' HP.out).mono ?_; rw [hi]; rintro e w' ⟨rfl, rfl⟩) | (go_at_call 38; refine (d_has_any D Q S s ad ha _ H.out.at').mono ?_; rw [hde]; rintro e w' ⟨rfl, rfl⟩) | fail)
        go_ret
        exact ⟨rfl, H.out.extC hq, HP.out, Chg.refl _ _⟩
    · rw [if_neg (fun hh => hn hh.1)]
      have hde : decide (ad < s.n) = false := by simpa using hn
      clear hn hbn
      go_enter Tryd.func29, Tryd.ntmps29
      go_wp2_with (first | (go_at_call 43; refine (idle_any D Q S s p _ H.out.at' HP.out).mono ?_; rw [hi]; rintro e w' ⟨rfl, rfl⟩) | (go_at_call 38; refine (d_has_any D Q S s ad ha _ H.out.at').mono ?_; rw [hde]; rintro e w' ⟨rfl, rfl⟩) | fail)
      go_ret
      exact ⟨rfl, H.out.extC hq, HP.out, Chg.refl _ _⟩
  · rw [hi]
    rw [if_pos (by decide)]
    go_enter Tryd.func29, Tryd.ntmps29
    go_wp2_with (first | (go_at_call 43; refine (idle_any D Q S s p _ H.out.at' HP.out).mono ?_; rw [hi]; rintro e w' ⟨rfl, rfl⟩) | fail)
    go_ret
    exact ⟨rfl, H.out.extC hq, HP.out, Chg.refl _ _⟩
theorem d_write_any (D Q : Nat) (S : Nat → Prop) (s : Dsk) (p : Pw) (ad : Nat) (b : d_Bs) (sp : Option Addr) (n cap : Nat) (ha : ad < 65536) (hbn : b.length = n) (w : World) (hS : SrcA w sp b) (h : DkAt w D Q S s) (hp : PwAt w Q p) (hcn : s.cache.length < 1000000) :
    Calls Tryd.prog 29 #[.pointer (some ⟨D, 0, none⟩), .int .u16 (ad : Int), .slice sp n cap] w (Wrote D Q S (wrote s p ad b) w) :=
  by
  obtain ⟨M, h⟩ := h
  exact (d_write_anyC D Q M S s p ad b sp n cap ha hbn w hS h hp hcn).mono fun _ _ ⟨h1, h2, h3, h4⟩ => ⟨h1, h2.at'.ofC hp.blk.lt, h3, h4⟩
end Go.Proofs.YtmgagalhpkieoaaDoor
/- Flush and crash; a disk made. -/
namespace Go.Proofs.YtmgagalhpkieoaaDoor
open Go.RowKit

def flushed (s : Dsk) (p : Pw) : Int × Dsk × Pw :=
  if idle s p ≠ 0 then (idle s p, s, p) else
  if p.step.1 = false then (3, s, p.step.2) else (0, { s with mem := settled (fun _ => 512) s.cache s.mem s.cache.length, cache := [] }, p.step.2)
def Did (D Q : Nat) (S : Nat → Prop) (r : Int × Dsk × Pw) (w : World) (e : Ending) (w' : World) : Prop :=
  e = .returned (.int .i64 r.1) ∧ DkAt w' D Q S r.2.1 ∧ PwAt w' Q r.2.2 ∧ Chg (fun k => S k ∨ k = Q) w w'
theorem cf50 (args : Array Value) (w : World) : (callFunc 54 args).run Tryd.prog w = .ok (.enter 54 args) w := by go_simp
set_option maxRecDepth 100000 in
set_option maxHeartbeats 1000000 in
theorem flush_any (D Q : Nat) (S : Nat → Prop) (s : Dsk) (p : Pw) (w : World) (h : DkAt w D Q S s) (hp : PwAt w Q p) (hcn : s.cache.length < 1000000) :
    Calls Tryd.prog 30 #[.pointer (some ⟨D, 0, none⟩)] w (Did D Q S (flushed s p) w) := by
  have H := Lib.hid h
  have HP := Lib.hid hp
  have HCN := Lib.hid hcn
  obtain ⟨M, v, to, hin⟩ := h
  have c0 := hin.c.1
  clear hin hcn hp
  unfold flushed
  rcases idle_cases s p with hi | hi
  · rw [hi]
    simp only [ne_eq, not_true_eq_false, if_false]
    obtain ⟨p', hp'⟩ : ∃ p', p.step = p' := ⟨_, rfl⟩
    obtain ⟨ok, q'⟩ := p'
    rw [hp']
    have HPS := Lib.hid hp'
    clear hp'
    simp only
    cases ok
    · simp only [if_true]
      go_enter Tryd.func30, Tryd.ntmps30
      go_wp2_with (first | (go_at_call 43; refine (idle_any D Q S s p _ H.out HP.out).mono ?_; rw [hi]; rintro e w' ⟨rfl, rfl⟩) | (go_at_call 51; refine (step_any Q p _ HP.out).mono ?_; rw [HPS.out]; rintro e w1 ⟨rfl, hp1, hc1⟩; have HP1 := Lib.hid hp1; have HC1 := Lib.hid hc1; clear hp1 hc1) | fail)
      go_ret
      exact ⟨rfl, H.out.power HC1.out, HP1.out, HC1.out.justQ⟩
    · simp only [Bool.true_eq_false, if_false]
      go_enter Tryd.func30, Tryd.ntmps30
      go_wp2_with (first | (go_at_call 43; refine (idle_any D Q S s p _ H.out HP.out).mono ?_; rw [hi]; rintro e w' ⟨rfl, rfl⟩) | (go_at_call 51; refine (step_any Q p _ HP.out).mono ?_; rw [HPS.out]; rintro e w1 ⟨rfl, hp1, hc1⟩; have HP1 := Lib.hid hp1; have HC1 := Lib.hid hc1; clear hp1 hc1) | (go_at_call 53; refine (settle_any D Q S s _ 54 #[] (fun _ => True) (fun _ => 512) (H.out.power HC1.out) HCN.out trivial (fun _ _ _ _ => trivial) (fun _ => .inr (by omega)) cf50 (fun i w _ _ => d_all_any _ w)).mono ?_; rintro e w2 ⟨rfl, hd2, hc2⟩; have HD2 := Lib.hid hd2; have HC2 := Lib.hid hc2; clear hd2 hc2) | fail)
      go_ret
      exact ⟨rfl, HD2.out, HP1.out.chg HC2.out H.out.nq, HC1.out.justQ.trans' HC2.out.withQ⟩
  · rw [hi]
    rw [if_pos (by decide)]
    go_enter Tryd.func30, Tryd.ntmps30
    go_wp2_with (first | (go_at_call 43; refine (idle_any D Q S s p _ H.out HP.out).mono ?_; rw [hi]; rintro e w' ⟨rfl, rfl⟩) | fail)
    go_ret
    exact ⟨rfl, H.out, HP.out, Chg.refl _ _⟩

def crashed (s : Dsk) (zs : List Int) : Dsk := if s.dead then s else { s with mem := settled (pickOf zs) s.cache s.mem s.cache.length, cache := [], lose := false, astray := none }
theorem left_bounds (z : Int) : left z = -1 ∨ (0 ≤ left z ∧ left z ≤ 512) := by
  unfold left
  split
  · exact .inl rfl
  · split
    · exact .inr (by omega)
    · exact .inr (by omega)
theorem pickOf_bounds (zs : List Int) (i : Nat) : pickOf zs i = -1 ∨ (0 ≤ pickOf zs i ∧ pickOf zs i ≤ 512) := by
  unfold pickOf
  split
  · exact left_bounds _
  · exact .inl rfl
theorem SrcI.chg {F : Nat → Prop} {w w' : World} {sp : Option Addr} {zs : List Int} (h : SrcI w sp zs) (hc : Chg F w w') (hn : ∀ a, sp = some a → ¬ F a.block) : SrcI w' sp zs :=
  ⟨h.1, fun h0 => by
    obtain ⟨g, o, rfl, hg, hcl⟩ := h.2 h0
    exact ⟨g, o, rfl, Nat.lt_of_lt_of_le hg hc.size, fun j hj => (World.cell?_of_block (w := w) (hc.block g hg (hn _ rfl))).trans (hcl j hj)⟩⟩
theorem crash_off {w : World} {D Q M : Nat} {v : Value} {to : Nat} {S : Nat → Prop} {s : Dsk} (h : DkIn w D Q M v to S s) : DkAt ((w.setCell ⟨D, 5, none⟩ (.bool false)).setCell ⟨D, 6, none⟩ (.bool false)) D Q S { s with lose := false, astray := none } := by
  obtain ⟨k1, k2, k3⟩ := h.keep ((d_chg1 5 (.bool false)).trans' (d_chg1 6 (.bool false)))
  exact ⟨M, v, to, ⟨(h.blk.set 5 _).set 6 _, k1, k2, h.sd, h.sm, h.sq, k3, h.tlt, (fun t e => by cases e), h.nlt⟩⟩
end Go.Proofs.YtmgagalhpkieoaaDoor
