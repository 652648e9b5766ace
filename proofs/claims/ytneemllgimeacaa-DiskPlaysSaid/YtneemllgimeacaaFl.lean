/- Flush and crash; a disk made. -/
import Derived.Test.YtneemllgimeacaaWt
namespace Go.Proofs.Ytneemllgimeacaa
open Go.RowKit

def flushed (s : Dsk) (p : Pw) : Int × Dsk × Pw :=
  if idle s p ≠ 0 then (idle s p, s, p) else
  if p.step.1 = false then (3, s, p.step.2) else (0, { s with mem := settled (fun _ => 512) s.cache s.mem s.cache.length, cache := [] }, p.step.2)
def Did (D Q : Nat) (S : Nat → Prop) (r : Int × Dsk × Pw) (w : World) (e : Ending) (w' : World) : Prop :=
  e = .returned (.int .i64 r.1) ∧ DkAt w' D Q S r.2.1 ∧ PwAt w' Q r.2.2 ∧ Chg (fun k => S k ∨ k = Q) w w'
theorem cf45 (args : Array Value) (w : World) : (callFunc 45 args).run Try.prog w = .ok (.enter 45 args) w := by go_simp
theorem cf50 (args : Array Value) (w : World) : (callFunc 50 args).run Try.prog w = .ok (.enter 50 args) w := by go_simp
set_option maxRecDepth 100000 in
set_option maxHeartbeats 1000000 in
theorem flush_any (D Q : Nat) (S : Nat → Prop) (s : Dsk) (p : Pw) (w : World) (h : DkAt w D Q S s) (hp : PwAt w Q p) (hcn : s.cache.length < 1000000) :
    Calls Try.prog 26 #[.pointer (some ⟨D, 0, none⟩)] w (Did D Q S (flushed s p) w) := by
  have H := Lib.hid h
  have HP := Lib.hid hp
  have HCN := Lib.hid hcn
  obtain ⟨M, v, to, hin⟩ := h
  have c0 := hin.c.1
  clear hin hcn hp
  unfold flushed
  rcases idle_cases s p with hi | hi
  · rw [hi]
    simp only [ne_eq, not_true_eq_false, if_false]
    obtain ⟨p', hp'⟩ : ∃ p', p.step = p' := ⟨_, rfl⟩
    obtain ⟨ok, q'⟩ := p'
    rw [hp']
    have HPS := Lib.hid hp'
    clear hp'
    simp only
    cases ok
    · simp only [if_true]
      go_enter Try.func26, Try.ntmps26
      go_wp2_with (first | (go_at_call 36; refine (idle_any D Q S s p _ H.out HP.out).mono ?_; rw [hi]; rintro e w' ⟨rfl, rfl⟩) | (go_at_call 24; refine (step_any Q p _ HP.out).mono ?_; rw [HPS.out]; rintro e w1 ⟨rfl, hp1, hc1⟩; have HP1 := Lib.hid hp1; have HC1 := Lib.hid hc1; clear hp1 hc1) | fail)
      go_ret
      exact ⟨rfl, H.out.power HC1.out, HP1.out, HC1.out.justQ⟩
    · simp only [Bool.true_eq_false, if_false]
      go_enter Try.func26, Try.ntmps26
      go_wp2_with (first | (go_at_call 36; refine (idle_any D Q S s p _ H.out HP.out).mono ?_; rw [hi]; rintro e w' ⟨rfl, rfl⟩) | (go_at_call 24; refine (step_any Q p _ HP.out).mono ?_; rw [HPS.out]; rintro e w1 ⟨rfl, hp1, hc1⟩; have HP1 := Lib.hid hp1; have HC1 := Lib.hid hc1; clear hp1 hc1) | (go_at_call 44; refine (settle_any D Q S s _ 50 #[] (fun _ => True) (fun _ => 512) (H.out.power HC1.out) HCN.out trivial (fun _ _ _ _ => trivial) (fun _ => .inr (by omega)) cf50 (fun i w _ _ => all_any _ w)).mono ?_; rintro e w2 ⟨rfl, hd2, hc2⟩; have HD2 := Lib.hid hd2; have HC2 := Lib.hid hc2; clear hd2 hc2) | fail)
      go_ret
      exact ⟨rfl, HD2.out, HP1.out.chg HC2.out H.out.nq, HC1.out.justQ.trans' HC2.out.withQ⟩
  · rw [hi]
    rw [if_pos (by decide)]
    go_enter Try.func26, Try.ntmps26
    go_wp2_with (first | (go_at_call 36; refine (idle_any D Q S s p _ H.out HP.out).mono ?_; rw [hi]; rintro e w' ⟨rfl, rfl⟩) | fail)
    go_ret
    exact ⟨rfl, H.out, HP.out, Chg.refl _ _⟩

def crashed (s : Dsk) (zs : List Int) : Dsk := if s.dead then s else { s with mem := settled (pickOf zs) s.cache s.mem s.cache.length, cache := [], lose := false, astray := none }
theorem left_bounds (z : Int) : left z = -1 ∨ (0 ≤ left z ∧ left z ≤ 512) := by
  unfold left
  split
  · exact .inl rfl
  · split
    · exact .inr (by omega)
    · exact .inr (by omega)
theorem pickOf_bounds (zs : List Int) (i : Nat) : pickOf zs i = -1 ∨ (0 ≤ pickOf zs i ∧ pickOf zs i ≤ 512) := by
  unfold pickOf
  split
  · exact left_bounds _
  · exact .inl rfl
theorem SrcI.chg {F : Nat → Prop} {w w' : World} {sp : Option Addr} {zs : List Int} (h : SrcI w sp zs) (hc : Chg F w w') (hn : ∀ a, sp = some a → ¬ F a.block) : SrcI w' sp zs :=
  ⟨h.1, fun h0 => by
    obtain ⟨g, o, rfl, hg, hcl⟩ := h.2 h0
    exact ⟨g, o, rfl, Nat.lt_of_lt_of_le hg hc.size, fun j hj => (World.cell?_of_block (w := w) (hc.block g hg (hn _ rfl))).trans (hcl j hj)⟩⟩
theorem crash_off {w : World} {D Q M : Nat} {v : Value} {to : Nat} {S : Nat → Prop} {s : Dsk} (h : DkIn w D Q M v to S s) : DkAt ((w.setCell ⟨D, 5, none⟩ (.bool false)).setCell ⟨D, 6, none⟩ (.bool false)) D Q S { s with lose := false, astray := none } := by
  obtain ⟨k1, k2, k3⟩ := h.keep ((chg1 5 (.bool false)).trans' (chg1 6 (.bool false)))
  exact ⟨M, v, to, ⟨(h.blk.set 5 _).set 6 _, k1, k2, h.sd, h.sm, h.sq, k3, h.tlt, (fun t e => by cases e), h.nlt⟩⟩
set_option maxRecDepth 100000 in
set_option maxHeartbeats 1000000 in
theorem crash_any (D Q : Nat) (S : Nat → Prop) (s : Dsk) (zs : List Int) (sp : Option Addr) (n cap : Nat) (w : World) (h : DkAt w D Q S s) (hcn : s.cache.length < 1000000) (hz : SrcI w sp zs) (hzn : zs.length = n) (hc : n ≤ cap) (hm : cap ≤ maxLen) (hsp : ∀ a, sp = some a → ¬ S a.block) :
    Calls Try.prog 21 #[.pointer (some ⟨D, 0, none⟩), .slice sp n cap] w fun e w' => e = .returned (.tuple #[]) ∧ DkAt w' D Q S (crashed s zs) ∧ Chg S w w' := by
  have H := Lib.hid h
  have HCN := Lib.hid hcn
  have HZ := Lib.hid hz
  have HSP := Lib.hid hsp
  have HZN := Lib.hid hzn
  have HM := Lib.hid hm
  clear h hcn hz hsp hzn hm
  unfold crashed
  by_cases hd : s.dead = true
  · rw [hd]
    simp only [if_true]
    go_enter Try.func21, Try.ntmps21
    go_wp2_with (first | (go_at_call 30; refine (dead_any D Q S s _ (H.out.chg (Chg.of_below ((Below.refl _ _).alloc (Nat.le_refl _) _)) (fun _ _ => id))).mono ?_; rw [hd]; rintro e w' ⟨rfl, rfl⟩) | fail)
    refine bodyPost_ret (results_none rfl _ _ _) rfl ?_
    have hc1 : Chg (fun _ => False) w (w.alloc (.cells #[.slice sp n cap] 43)) := Chg.of_below ((Below.refl _ _).alloc (Nat.le_refl _) _)
    exact ⟨rfl, H.out.chg hc1 (fun _ _ h => h), hc1.mono (fun _ h => h.elim)⟩
  · have hd' : s.dead = false := by simpa using hd
    rw [hd']
    simp only [Bool.false_eq_true, if_false]
    clear hd
    have hc1 : Chg (fun _ => False) w (w.alloc (.cells #[.slice sp n cap] 43)) := Chg.of_below ((Below.refl _ _).alloc (Nat.le_refl _) _)
    have H1 := Lib.hid (H.out.chg hc1 (fun _ _ h => h))
    have HX := Lib.hid (show (w.alloc (.cells #[.slice sp n cap] 43)).cell? ⟨w.heap.size, 0, none⟩ = some (.slice sp n cap) from (Blk.new w [.slice sp n cap] 43).cell rfl)
    have HZ1 := Lib.hid (HZ.out.chg hc1 (fun _ _ h => h))
    have HC1 := Lib.hid hc1
    clear hc1
    go_enter Try.func21, Try.ntmps21
    go_wp2_with (first | (go_at_call 30; refine (dead_any D Q S s _ H1.out).mono ?_; rw [hd']; rintro e w' ⟨rfl, rfl⟩) | fail)
    have hK0 : SrcI (w.alloc (.cells #[.slice sp n cap] 43)) sp zs ∧ (w.alloc (.cells #[.slice sp n cap] 43)).cell? ⟨w.heap.size, 0, none⟩ = some (.slice sp zs.length cap) ∧ w.heap.size < (w.alloc (.cells #[.slice sp n cap] 43)).heap.size := by
      rw [HZN.out]
      exact ⟨HZ1.out, HX.out, by simp⟩
    refine (settle_any D Q S s _ 45 #[.pointer (some ⟨w.heap.size, 0, none⟩)] (fun W => SrcI W sp zs ∧ W.cell? ⟨w.heap.size, 0, none⟩ = some (.slice sp zs.length cap) ∧ w.heap.size < W.heap.size) (pickOf zs) H1.out HCN.out hK0 (fun W W' hk hc => ⟨hk.1.chg hc HSP.out, (World.cell?_of_block (w := W) (hc.block _ hk.2.2 (fun hs => Nat.lt_irrefl _ (H.out.lt _ hs)))).trans hk.2.1, Nat.lt_of_lt_of_le hk.2.2 hc.size⟩) (pickOf_bounds zs) cf45 (fun i W hi hk => pick_any zs sp cap w.heap.size i (by rw [HZN.out]; exact hc) HM.out hi W hk.1 hk.2.1)).mono ?_
    rintro e w2 ⟨rfl, ⟨M, v, to, hd2⟩, hc2⟩
    have c5 := hd2.c.2.2.2.2.2.1
    have c6 := hd2.c.2.2.2.2.2.2.1
    have f5 := hd2.blk.free 5
    have f6 := hd2.blk.free 6
    have HD2 := Lib.hid hd2
    have HC2 := Lib.hid hc2
    clear hd2 hc2
    go_wp2_with fail
    go_end0
    have h1 := crash_off HD2.out
    rw [hd'] at h1
    exact ⟨rfl, h1, ((HC1.out.mono (fun _ h => h.elim)).trans' HC2.out).trans' ((chgD HD2.out.sd 5 _).trans' (chgD HD2.out.sd 6 _))⟩
end Go.Proofs.Ytneemllgimeacaa
