/- The program's disk and the document's tell the same. -/
import Derived.Test.YtmgagalhpkieoaaGreatDoorM12
import Derived.Test.YtmgagalhpkieoaaGreatDoorM01
namespace Go.Proofs.YtmgagalhpkieoaaGreatDoor
open Go.RowKit

structure Sim (s : Dsk) (t : Rsk) : Prop where
  n : t.n = s.n
  b : ∀ a, (s.mem a).b = rblock t a
  bad : ∀ a, (s.mem a).bad = t.bad.contains a
  stuck : ∀ a, (s.mem a).stuck = t.stuck.contains a
  cache : t.cache = s.cache
  dead : t.dead = s.dead
  lose : t.lose = s.lose
  astray : t.astray = s.astray
theorem last_others : ∀ (l : List (Nat × d_Bs)) (r : Option d_Bs) (a x : Nat), x ≠ a → (others l a).foldl (fun r y => if y.1 = x then some y.2 else r) r = l.foldl (fun r y => if y.1 = x then some y.2 else r) r
  | [], _, _, _, _ => rfl
  | y :: l, r, a, x, hx => by
    unfold others
    by_cases h : y.1 = a
    · have h2 : ¬ y.1 = x := fun e => hx (e ▸ h)
      rw [List.filter_cons_of_neg (by simp [h])]
      simp only [List.foldl_cons, if_neg h2]
      exact last_others l r a x hx
    · rw [List.filter_cons_of_pos (by simp [h])]
      simp only [List.foldl_cons]
      exact last_others l _ a x hx
theorem block_put (t : Rsk) (a : Nat) (b : d_Bs) (x : Nat) : (lastOf (others t.m a ++ [(a, b)]) x).getD zeros = if x = a then b else rblock t x := by
  rw [lastOf_snoc]
  by_cases h : x = a
  · rw [if_pos h.symm, if_pos h]
    rfl
  · rw [if_neg (fun e => h e.symm), if_neg h]
    unfold rblock lastOf
    rw [last_others _ _ _ _ h]
theorem wo_has (l : List Nat) (a x : Nat) : (woN l a).contains x = (if x = a then false else l.contains x) := by
  unfold woN
  by_cases h : x = a
  · rw [if_pos h]
    simp [h]
  · rw [if_neg h, Bool.eq_iff_iff]
    simp [h]
theorem Sim.came {s : Dsk} {t : Rsk} (h : Sim s t) (a : Nat) (b : d_Bs) {n : Nat} {z : Int} (hz : z = (n : Int)) : Sim { s with mem := come1 s.mem a b z } (rcame t a b n) := by
  subst hz
  have hm : ∀ x, come1 s.mem a b (n : Int) x = if x = a then ⟨b.take n ++ (s.mem a).b.drop n, false, (s.mem a).stuck⟩ else s.mem x := fun x => by
    unfold come1
    rw [if_neg (by omega)]
    simp [Upd]
  refine ⟨h.n, fun x => ?_, fun x => ?_, fun x => ?_, h.cache, h.dead, h.lose, h.astray⟩
  · show (come1 s.mem a b (n : Int) x).b = (lastOf (others t.m a ++ [(a, _)]) x).getD zeros
    rw [hm, block_put]
    by_cases hx : x = a
    · rw [if_pos hx, if_pos hx, h.b a]
    · rw [if_neg hx, if_neg hx, h.b x]
  · show (come1 s.mem a b (n : Int) x).bad = (woN t.bad a).contains x
    rw [hm, wo_has]
    by_cases hx : x = a
    · rw [if_pos hx, if_pos hx]
    · rw [if_neg hx, if_neg hx, h.bad x]
  · show (come1 s.mem a b (n : Int) x).stuck = t.stuck.contains x
    rw [hm]
    by_cases hx : x = a
    · rw [if_pos hx, ← h.stuck x, hx]
    · rw [if_neg hx, h.stuck x]
theorem Sim.looks {s : Dsk} {t : Rsk} (h : Sim s t) (a : Nat) : rlook t a = look s a := by
  unfold rlook look tells
  rw [h.dead, h.n, ← h.stuck a, h.cache, ← h.bad a, ← h.b a]
  cases lastOf s.cache a <;> rfl
theorem Sim.settles {s : Dsk} {t : Rsk} (h : Sim s t) (zs : List Int) : ∀ k, Sim { s with mem := settled (pickOf zs) s.cache s.mem k } (rset zs t k)
  | 0 => h
  | k + 1 => by
    have ih := h.settles zs k
    cases hx : t.cache[k]? with
    | none =>
      have hx' : s.cache[k]? = none := by rw [← h.cache]; exact hx
      have e1 : settled (pickOf zs) s.cache s.mem (k + 1) = settled (pickOf zs) s.cache s.mem k := by simp [settled, hx']
      have e2 : rset zs t (k + 1) = rset zs t k := by simp [rset, hx]
      rw [e1, e2]
      exact ih
    | some x =>
      have hx' : s.cache[k]? = some x := by rw [← h.cache]; exact hx
      rw [settled_succ hx']
      rcases pickOf_bounds zs k with hp | ⟨hp, _⟩
      · rw [rset_none hp]
        have e : come1 (settled (pickOf zs) s.cache s.mem k) x.1 x.2 (pickOf zs k) = settled (pickOf zs) s.cache s.mem k := by unfold come1; rw [if_pos hp]
        rw [e]
        exact ih
      · have hn : pickOf zs k = ((pickOf zs k).toNat : Int) := by omega
        rw [rset_some hx hn]
        exact ih.came x.1 x.2 hn
theorem Sim.flushes {s : Dsk} {t : Rsk} (h : Sim s t) : ∀ k, k ≤ t.cache.length → Sim { s with mem := settled (fun _ => 512) s.cache s.mem k } (rall t (t.cache.take k))
  | 0, _ => by simpa [rall, settled] using h
  | k + 1, hk => by
    have ih := h.flushes k (by omega)
    obtain ⟨x, hx⟩ : ∃ x, t.cache[k]? = some x := ⟨_, List.getElem?_eq_getElem (by omega)⟩
    have hx' : s.cache[k]? = some x := by rw [← h.cache]; exact hx
    rw [settled_succ hx', take_one hx, rall_snoc]
    exact ih.came x.1 x.2 (by rfl)
theorem Sim.crash {s : Dsk} {t : Rsk} (h : Sim s t) (zs : List Int) : Sim (crashed s zs) (rcrashed t zs) := by
  unfold crashed rcrashed
  rw [h.dead]
  by_cases hd : s.dead = true
  · rw [if_pos hd, if_pos hd]
    exact h
  · rw [if_neg hd, if_neg hd]
    have := h.settles zs s.cache.length
    rw [show t.cache.length = s.cache.length by rw [h.cache]]
    exact ⟨this.n, this.b, this.bad, this.stuck, rfl, this.dead, rfl, rfl⟩
theorem step_off {p : Pw} (h : ¬ p.on = true) : p.step = (false, p) := by
  have h' : p.on = false := by simpa using h
  unfold Pw.step
  rw [if_pos h']
theorem Sim.flush {s : Dsk} {t : Rsk} (h : Sim s t) (p : Pw) : (rflushed t p).1 = (flushed s p).1 ∧ Sim (flushed s p).2.1 (rflushed t p).2.1 ∧ (rflushed t p).2.2 = (flushed s p).2.2 := by
  by_cases hd : s.dead = true
  · have e1 : flushed s p = (3, s, p) := by simp [flushed, idle, hd]
    have e2 : rflushed t p = (3, t, p) := by simp [rflushed, h.dead, hd]
    rw [e1, e2]
    exact ⟨rfl, h, rfl⟩
  · have hd' : s.dead = false := by simpa using hd
    by_cases hon : p.on = true
    · by_cases hst : p.step.1 = false
      · have e1 : flushed s p = (3, s, p.step.2) := by simp [flushed, idle, hd', hon, hst]
        have e2 : rflushed t p = (3, t, p.step.2) := by simp [rflushed, h.dead, hd', hst]
        rw [e1, e2]
        exact ⟨rfl, h, rfl⟩
      · have e1 : flushed s p = (0, { s with mem := settled (fun _ => 512) s.cache s.mem s.cache.length, cache := [] }, p.step.2) := by unfold flushed idle; rw [hd', hon]; simp [hst]
        have e2 : rflushed t p = (0, { rall t t.cache with cache := [] }, p.step.2) := by unfold rflushed; rw [h.dead, hd']; simp [hst]
        rw [e1, e2]
        have hf := h.flushes t.cache.length (Nat.le_refl _)
        rw [List.take_length, show t.cache.length = s.cache.length by rw [h.cache]] at hf
        exact ⟨rfl, ⟨hf.n, hf.b, hf.bad, hf.stuck, rfl, hf.dead, hf.lose, hf.astray⟩, rfl⟩
    · have e1 : flushed s p = (3, s, p) := by simp [flushed, idle, hd', hon]
      have e2 : rflushed t p = (3, t, p) := by simp [rflushed, h.dead, hd', step_off hon]
      rw [e1, e2]
      exact ⟨rfl, h, rfl⟩
theorem Sim.keep {s : Dsk} {t : Rsk} (h : Sim s t) (a : Nat) (b : d_Bs) : Sim (kept s a b) (rkept t a b) := by
  by_cases ha : a < s.n
  · have e1 : kept s a b = { s with cache := s.cache ++ [(a, b)] } := by unfold kept; rw [if_pos ha]
    have e2 : rkept t a b = { t with cache := t.cache ++ [(a, b)] } := by unfold rkept; rw [h.n, if_pos ha]
    rw [e1, e2]
    exact ⟨h.n, h.b, h.bad, h.stuck, by show t.cache ++ _ = s.cache ++ _; rw [h.cache], h.dead, h.lose, h.astray⟩
  · have e1 : kept s a b = s := by unfold kept; rw [if_neg ha]
    have e2 : rkept t a b = t := by unfold rkept; rw [h.n, if_neg ha]
    rw [e1, e2]
    exact h
theorem Sim.write {s : Dsk} {t : Rsk} (h : Sim s t) (p : Pw) (a : Nat) (b : d_Bs) : (rwrote t p a b).1 = (wrote s p a b).1 ∧ Sim (wrote s p a b).2.1 (rwrote t p a b).2.1 ∧ (rwrote t p a b).2.2 = (wrote s p a b).2.2 := by
  by_cases hd : s.dead = true
  · have e1 : wrote s p a b = (3, s, p) := by simp [wrote, idle, hd]
    have e2 : rwrote t p a b = (3, t, p) := by simp [rwrote, h.dead, hd]
    rw [e1, e2]
    exact ⟨rfl, h, rfl⟩
  · have hd' : s.dead = false := by simpa using hd
    by_cases hon : p.on = true
    · by_cases hn : a < s.n ∧ b.length = 512
      · obtain ⟨hn1, hn2⟩ := hn
        have hdt : ¬ t.dead = true := by rw [h.dead]; exact hd
        have hnt : a < t.n := by rw [h.n]; exact hn1
        have e1 : wrote s p a b = (if p.step.1 = false then ((3 : Int), s, p.step.2) else if s.lose then (0, { s with lose := false }, p.step.2) else match s.astray with | some t => (0, kept { s with astray := none } t b, p.step.2) | none => (0, kept s a b, p.step.2)) := by
          have hi : idle s p = 0 := by simp [idle, hd', hon]
          unfold wrote
          rw [if_neg (by rw [hi]; simp), if_pos ⟨hn1, hn2⟩]
          cases s.astray <;> rfl
        have e2 : rwrote t p a b = (if p.step.1 = false then ((3 : Int), t, p.step.2) else if t.lose then (0, { t with lose := false }, p.step.2) else match t.astray with | some x => (0, rkept { t with astray := none } x b, p.step.2) | none => (0, rkept t a b, p.step.2)) := by
          unfold rwrote
          rw [if_neg hdt, if_neg (by rw [hon]; simp), if_pos hnt, if_pos hn2]
          cases t.astray <;> rfl
        rw [e1, e2]
        by_cases hst : p.step.1 = false
        · rw [if_pos hst, if_pos hst]
          exact ⟨rfl, h, rfl⟩
        · rw [if_neg hst, if_neg hst]
          by_cases hlo : s.lose = true
          · rw [if_pos hlo, if_pos (by rw [h.lose]; exact hlo)]
            exact ⟨rfl, ⟨h.n, h.b, h.bad, h.stuck, h.cache, h.dead, rfl, h.astray⟩, rfl⟩
          · rw [if_neg hlo, if_neg (by rw [h.lose]; exact hlo)]
            have hq : Sim { s with astray := none } { t with astray := none } := ⟨h.n, h.b, h.bad, h.stuck, h.cache, h.dead, h.lose, rfl⟩
            have ha := h.astray
            generalize s.astray = os at ha
            generalize t.astray = ot at ha
            subst ha
            cases ot with
            | none => exact ⟨rfl, h.keep a b, rfl⟩
            | some x => exact ⟨rfl, hq.keep x b, rfl⟩
      · have e1 : wrote s p a b = (1, s, p) := by unfold wrote idle; rw [hd', hon]; simp [hn]
        have e2 : rwrote t p a b = (1, t, p) := by
          unfold rwrote
          rw [h.dead, hd', hon, h.n]
          simp only [Bool.false_eq_true, if_false, Bool.true_eq_false]
          by_cases h1 : a < s.n
          · rw [if_pos h1, if_neg (fun h2 => hn ⟨h1, h2⟩)]
          · rw [if_neg h1]
        rw [e1, e2]
        exact ⟨rfl, h, rfl⟩
    · have e1 : wrote s p a b = (3, s, p) := by simp [wrote, idle, hd', hon]
      have e2 : rwrote t p a b = (3, t, p) := by simp [rwrote, h.dead, hd', hon]
      rw [e1, e2]
      exact ⟨rfl, h, rfl⟩
theorem Sim.rot {s : Dsk} {t : Rsk} (h : Sim s t) (a : Nat) (b : d_Bs) : (rfault t 0 a b).1 = (ailed s a b.length (rotK b)).1 ∧ Sim (ailed s a b.length (rotK b)).2 (rfault t 0 a b).2 := by
  unfold ailed rfault
  have hnt : a < t.n ↔ a < s.n := by rw [h.n]
  by_cases hn : a < s.n
  · by_cases hb : b.length = 512
    · rw [if_pos (hnt.2 hn), if_neg (show ¬ (0 = 0 ∧ b.length ≠ 512) from fun h => h.2 hb), if_pos (show a < s.n ∧ b.length = 512 from ⟨hn, hb⟩)]
      refine ⟨rfl, ⟨h.n, fun x => ?_, fun x => ?_, fun x => ?_, by show others t.cache a = others s.cache a; rw [h.cache], h.dead, h.lose, h.astray⟩⟩
      · show (Upd s.mem a (rotK b (s.mem a)) x).b = (lastOf (others t.m a ++ [(a, b)]) x).getD zeros
        rw [block_put]
        by_cases hx : x = a
        · simp [Upd, rotK, hx, hb]
        · simp [Upd, hx, h.b x]
      · show (Upd s.mem a (rotK b (s.mem a)) x).bad = t.bad.contains x
        by_cases hx : x = a
        · rw [← h.bad x]; simp [Upd, rotK, hx, hb]
        · rw [← h.bad x]; simp [Upd, hx]
      · show (Upd s.mem a (rotK b (s.mem a)) x).stuck = t.stuck.contains x
        by_cases hx : x = a
        · rw [← h.stuck x]; simp [Upd, rotK, hx, hb]
        · rw [← h.stuck x]; simp [Upd, hx]
    · rw [if_pos (hnt.2 hn), if_pos (show 0 = 0 ∧ b.length ≠ 512 from ⟨rfl, hb⟩), if_neg (show ¬ (a < s.n ∧ b.length = 512) from fun h => hb h.2)]
      exact ⟨rfl, h⟩
  · rw [if_neg (fun h => hn (hnt.1 h)), if_neg (fun h => hn h.1)]
    exact ⟨rfl, h⟩
theorem has_app (l : List Nat) (a x : Nat) : (woN l a ++ [a]).contains x = (if x = a then true else l.contains x) := by
  rw [List.contains_append, wo_has]
  by_cases h : x = a
  · simp [h]
  · simp [h]
theorem Sim.bads {s : Dsk} {t : Rsk} (h : Sim s t) (a : Nat) (b : d_Bs) : (rfault t 1 a b).1 = (ailed s a 512 (fun k => { k with bad := true })).1 ∧ Sim (ailed s a 512 (fun k => { k with bad := true })).2 (rfault t 1 a b).2 := by
  unfold ailed rfault
  have hnt : a < t.n ↔ a < s.n := by rw [h.n]
  by_cases hn : a < s.n
  · rw [if_pos (hnt.2 hn), if_neg (fun h => absurd h.1 (by decide)), if_pos (show a < s.n ∧ 512 = 512 from ⟨hn, rfl⟩)]
    refine ⟨rfl, ⟨h.n, fun x => ?_, fun x => ?_, fun x => ?_, by show others t.cache a = others s.cache a; rw [h.cache], h.dead, h.lose, h.astray⟩⟩
    · show (Upd s.mem a { s.mem a with bad := true } x).b = rblock t x
      by_cases hx : x = a
      · rw [← h.b x]; simp [Upd, hx]
      · rw [← h.b x]; simp [Upd, hx]
    · show (Upd s.mem a { s.mem a with bad := true } x).bad = (woN t.bad a ++ [a]).contains x
      rw [has_app]
      by_cases hx : x = a
      · simp [Upd, hx]
      · simp only [Upd, hx, if_false]; exact h.bad x
    · show (Upd s.mem a { s.mem a with bad := true } x).stuck = t.stuck.contains x
      by_cases hx : x = a
      · rw [← h.stuck x]; simp [Upd, hx]
      · rw [← h.stuck x]; simp [Upd, hx]
  · rw [if_neg (fun h => hn (hnt.1 h)), if_neg (fun h => hn h.1)]
    exact ⟨rfl, h⟩
theorem Sim.sticks {s : Dsk} {t : Rsk} (h : Sim s t) (a : Nat) (b : d_Bs) : (rfault t 2 a b).1 = (ailed s a 512 (fun k => { k with stuck := true })).1 ∧ Sim (ailed s a 512 (fun k => { k with stuck := true })).2 (rfault t 2 a b).2 := by
  unfold ailed rfault
  have hnt : a < t.n ↔ a < s.n := by rw [h.n]
  by_cases hn : a < s.n
  · rw [if_pos (hnt.2 hn), if_neg (fun h => absurd h.1 (by decide)), if_pos (show a < s.n ∧ 512 = 512 from ⟨hn, rfl⟩)]
    refine ⟨rfl, ⟨h.n, fun x => ?_, fun x => ?_, fun x => ?_, by show others t.cache a = others s.cache a; rw [h.cache], h.dead, h.lose, h.astray⟩⟩
    · show (Upd s.mem a { s.mem a with stuck := true } x).b = rblock t x
      by_cases hx : x = a
      · rw [← h.b x]; simp [Upd, hx]
      · rw [← h.b x]; simp [Upd, hx]
    · show (Upd s.mem a { s.mem a with stuck := true } x).bad = t.bad.contains x
      by_cases hx : x = a
      · rw [← h.bad x]; simp [Upd, hx]
      · rw [← h.bad x]; simp [Upd, hx]
    · show (Upd s.mem a { s.mem a with stuck := true } x).stuck = (woN t.stuck a ++ [a]).contains x
      rw [has_app]
      by_cases hx : x = a
      · simp [Upd, hx]
      · simp only [Upd, hx, if_false]; exact h.stuck x
  · rw [if_neg (fun h => hn (hnt.1 h)), if_neg (fun h => hn h.1)]
    exact ⟨rfl, h⟩
theorem sim_fresh (n : Nat) : Sim (fresh n) ⟨n, [], [], [], [], false, false, none⟩ := ⟨rfl, fun _ => rfl, fun _ => rfl, fun _ => rfl, rfl, rfl, rfl, rfl⟩
theorem Sim.readE {s : Dsk} {t : Rsk} (h : Sim s t) (p : Pw) (a : Nat) : rreadE t p a = Go.Proofs.YtmgagalhpkieoaaGreatDoor.readE s p a := by
  unfold rreadE Go.Proofs.YtmgagalhpkieoaaGreatDoor.readE
  rw [h.looks a, h.dead, h.n]
  unfold look idle
  by_cases hd : s.dead = true
  · simp [hd]
  · by_cases hon : p.on = true
    · by_cases hn : a < s.n
      · simp [hd, hon, hn]
      · simp [hd, hon, hn]
    · simp [hd, hon]
theorem Sim.readB {s : Dsk} {t : Rsk} (h : Sim s t) (p : Pw) (a : Nat) : rreadB t p a = (Go.Proofs.YtmgagalhpkieoaaGreatDoor.readB s p a).getD [] := by
  unfold rreadB Go.Proofs.YtmgagalhpkieoaaGreatDoor.readB
  rw [h.looks a, h.dead, h.n]
  unfold look idle
  by_cases hd : s.dead = true
  · simp [hd]
  · by_cases hon : p.on = true
    · by_cases hn : a < s.n
      · simp [hd, hon, hn]
      · simp [hd, hon, hn]
    · simp [hd, hon]
end Go.Proofs.YtmgagalhpkieoaaGreatDoor
/- How many bytes a number has; a number put behind bytes. -/
namespace Go.Proofs.YtmgagalhpkieoaaGreatDoor
open Go.RowKit

set_option maxRecDepth 100000 in
theorem len64_at16 (w : World) : Calls Tryz.prog 136 #[.int .u64 65535] w fun e w' => e = .returned (.int .i64 16) ∧ w = w' := by
  go_enter Tryz.func136, Tryz.ntmps136
  go_wp2
  go_ret
  exact ⟨by kernel_rfl, rfl⟩
theorem wd16_any (w : World) : Calls Tryz.prog 133 #[] w fun e w' => e = .returned (.int .i64 2) ∧ w = w' := by
  go_enter Tryz.func133, Tryz.ntmps133
  go_wp2_with (go_at_call 136; refine (len64_at16 _).mono ?_; rintro e w' ⟨rfl, rfl⟩)
  go_ret
  exact ⟨rfl, rfl⟩
set_option maxRecDepth 100000 in
theorem len64_at32 (w : World) : Calls Tryz.prog 136 #[.int .u64 4294967295] w fun e w' => e = .returned (.int .i64 32) ∧ w = w' := by
  go_enter Tryz.func136, Tryz.ntmps136
  go_wp2
  go_ret
  exact ⟨by kernel_rfl, rfl⟩
theorem wd32_any (w : World) : Calls Tryz.prog 135 #[] w fun e w' => e = .returned (.int .i64 4) ∧ w = w' := by
  go_enter Tryz.func135, Tryz.ntmps135
  go_wp2_with (go_at_call 136; refine (len64_at32 _).mono ?_; rintro e w' ⟨rfl, rfl⟩)
  go_ret
  exact ⟨rfl, rfl⟩
set_option maxRecDepth 100000 in
theorem len64_at64 (w : World) : Calls Tryz.prog 136 #[.int .u64 18446744073709551615] w fun e w' => e = .returned (.int .i64 64) ∧ w = w' := by
  go_enter Tryz.func136, Tryz.ntmps136
  go_wp2
  go_ret
  exact ⟨by kernel_rfl, rfl⟩
theorem wd64_any (w : World) : Calls Tryz.prog 134 #[] w fun e w' => e = .returned (.int .i64 8) ∧ w = w' := by
  go_enter Tryz.func134, Tryz.ntmps134
  go_wp2_with (go_at_call 136; refine (len64_at64 _).mono ?_; rintro e w' ⟨rfl, rfl⟩)
  go_ret
  exact ⟨rfl, rfl⟩

def PutRel (l : List (BitVec 8)) (m : Nat) (w : World) (s : Value) (wr : World) : Prop :=
  s = .slice (some ⟨w.heap.size, 0, none⟩) l.length m ∧ OwnB wr w.heap.size (.slice (some ⟨w.heap.size, 0, none⟩) l.length m) l ∧ Below w.heap.size w wr
theorem owns_of_row {w1 : World} {g : Nat} {l : List (BitVec 8)} {n m : Nat} {B : Nat} (h : w1.heap[g]? = some (.cells (splice (List.replicate m (.int .u8 0)) 0 (l.map V8)).toArray 5 (0, 0))) (hn : l.length = n) (hm : n ≤ m) (hx : m ≤ maxLen) (hB : B ≤ g) :
    OwnB w1 B (.slice (some ⟨g, 0, none⟩) n m) l := by
  subst hn
  refine ⟨by simp, .inr ⟨g, m, _, rfl, hB, h, hm, hx, ?_, ?_⟩⟩
  · simp only [List.size_toArray, Nat.mul_one]
    rw [length_splice _ _ _ (by simp; omega)]; simp
  · simp [splice]
theorem one_at (w : World) (v : Value) (t : TypeId) : ∀ j u, [v][j]? = some u → (w.alloc (.cells #[v] t)).cell? ((⟨w.heap.size, 0, none⟩ : Addr).add j) = some u := by
  intro j u hj
  match j, hj with
  | 0, hj => simp at hj; subst hj; simp [Addr.add]
theorem one_cell8 (x : BitVec 8) : ∀ u ∈ [V8 x], u.oneCell' = true := by
  intro u hu; simp at hu; subst hu; rfl

theorem src_pos {w : World} {sp : Option Addr} {bs : List (BitVec 8)} (h : SrcA w sp bs) {g : Nat} : 0 < (bs.map V8).length → (some (⟨g, 0, none⟩ : Addr)) = some ⟨g, 0, none⟩ ∧ ∃ ad, sp = some ad ∧ ∀ j v, (bs.map V8)[j]? = some v → w.cell? (ad.add j) = some v := fun h0 => by
  obtain ⟨g', o, rfl, _, hc⟩ := h (by simpa using h0)
  exact ⟨rfl, _, rfl, src_cell hc⟩

set_option maxRecDepth 100000 in
set_option maxHeartbeats 1000000 in
theorem put16_any (l : List (BitVec 8)) (sp : Option Addr) (cap n : Nat) (w : World) (hl : l.length ≤ 100000) (hn : n < 2 ^ 16) (hS : SrcA w sp l) :
    Calls Tryz.prog 127 #[.slice sp l.length cap, .int .u16 (n : Int)] w fun e w' => e = .returned (.slice (some ⟨w.heap.size, 0, none⟩) (l.length + 2) (l.length + 2)) ∧
      OwnB w' w.heap.size (.slice (some ⟨w.heap.size, 0, none⟩) (l ++ leb n 2).length (l.length + 2)) (l ++ leb n 2) ∧ Below w.heap.size w w' := by
  obtain ⟨i0, hi, hz0, hz1, hz2⟩ := info_parts infoB
  have HS := Lib.hid hS
  obtain ⟨L, hL⟩ : ∃ L, l.length = L := ⟨_, rfl⟩
  rw [hL] at hl ⊢
  have HL := Lib.hid hL
  clear hS hL
  have hw := u64_in n (by omega)
  clear hn
  go_enter Tryz.func127, Tryz.ntmps127
  go_wp2_with (first
    | (go_at_call 133; refine (wd16_any _).mono ?_; rintro e w' ⟨rfl, rfl⟩)
    | (at_make; refine wpList_makeLC rfl _ _ 59 rfl 5 i0 (.int .u8 0) Tryz.underlying59 hi hz0 rfl hz1 .i64 .i64 _ _ L (L + 2) rfl rfl rfl (by omega) (by omega) (by rw [hz2]; omega) (by unfold maxLen; omega) ?_; intro w1 hb1 hb2; have HB1 := Lib.hid hb1; have HB2 := Lib.hid hb2; clear hb1 hb2)
    | (refine wpList_copy_splice rfl (.tmp 14) (.tmp 15) 59 59 rfl 5 Tryz.underlying59 sizeB (some ⟨w.heap.size, 0, none⟩) sp L (L + 2) L cap rfl rfl w.heap.size 0 _ 5 HB1.out (l.map V8) (by rw [List.length_map, HL.out]; simp) (src_pos (HS.out.grown HB2.out)) (by simp [HL.out]) (one_v8 l) w.heap.size w HB2.out (Nat.le_refl _) ?_; intro w2 hs2 hb3; have HP := Lib.hid hs2.out; have HB3 := Lib.hid hb3; clear hs2 hb3)
    | fail)
  have hR0 : PutRel (l ++ leb n 0) (L + 2) w (.slice (some ⟨w.heap.size, 0, none⟩) L (L + 2)) w2 := by
    have e : (l ++ leb n 0).length = L := by rw [List.length_append, HL.out, leb_length]; omega
    refine ⟨by rw [e], ?_, HB3.out⟩
    rw [e]
    exact owns_of_row (by simpa [leb] using HP.out) e (by omega) (by unfold maxLen; omega) (Nat.le_refl _)
  have HR0 := Lib.hid hR0
  clear hR0
  go_loopw [5, 18] (fun s i wr => ∃ k : Nat, k ≤ 2 ∧ i = .int .i64 k ∧ PutRel (l ++ leb n k) (L + 2) w s wr) (fun _ i _ => 2 - (intOf i).toNat)
  case atStart => exact ⟨0, by omega, rfl, HR0.out⟩
  case round =>
    clear HR0 HB1 HB2 HB3 HP
    obtain ⟨k, hk, rfl, hR⟩ := hrel
    obtain ⟨rfl, hown, hbel⟩ := hR
    have e : (l ++ leb n k).length = L + k := by rw [List.length_append, HL.out, leb_length]
    have HO := Lib.hid hown
    have HW := Lib.hid hbel
    have hsz : w.heap.size < wr.heap.size := (hown.lt _ rfl).2
    have HE := Lib.hid e
    have hown2 := hown
    unfold OwnB at hown2
    rw [e] at hown2
    have HO2 := Lib.hid hown2
    rw [e]
    clear hown2
    clear hown hbel e
    by_cases hlt : k < 2
    · have e2 := IntWalk.i64_in (8 * (k : Int)) (by omega)
      have p3 : 0 ≤ 8 * (k : Int) := by omega
      have r3 : (8 * (k : Int)).toNat = 8 * k := by omega
      have m3 : min (8 * k) 64 = 8 * k := by omega
      have l3 := lb_int n k
      have l4 := lb_mod n k
      have z1 := hz1
      clear hz1
      have HZ1 := Lib.hid z1
      clear z1
      go_wp2_with (first
        | (at_builtin; refine wpList_append_fits _ rfl (.tmp 21) (.tmp 28) 59 rfl w.heap.size 5 i0 1 Tryz.underlying59 hi HZ1.out w.heap.size (L + k) (L + 2) ((l ++ leb n k).map V8) rfl (HO2.out.alloc _) ⟨wr.heap.size, 0, none⟩ 1 1 [V8 (lb n k)] rfl rfl (one_at _ _ _) (one_cell8 _) (by omega) ?_; intro w2 ho hg)
        | fail)
      have HR2 : Hid (PutRel (l ++ leb n (k + 1)) (L + 2) w (.slice (some ⟨w.heap.size, 0, none⟩) (L + k + 1) (L + 2)) w2) := Lib.hid (by
        have e : (l ++ leb n (k + 1)).length = L + k + 1 := by rw [List.length_append, HL.out, leb_length]; omega
        refine ⟨by rw [e], ?_, (HW.out.alloc (by omega) _).grown hg (by simp; omega) (fun j hj => by cases hj; exact Nat.le_refl _)⟩
        unfold OwnB
        rw [e, leb_succ, ← List.append_assoc, List.map_append]
        exact ho)
      clear ho hg
      go_roundw
      case rel => exact ⟨k + 1, by omega, by go_num, HR2.out⟩
      case measure => simp [intOf]; omega
    · obtain rfl : k = 2 := by omega
      clear hlt hk
      go_wp2
      go_ret
      refine ⟨rfl, ?_, HW.out⟩
      exact HO.out
theorem pu16_any (l : List (BitVec 8)) (sp : Option Addr) (cap n : Nat) (w : World) (hl : l.length ≤ 100000) (hn : n < 2 ^ 16) (hS : SrcA w sp l) :
    Calls Tryz.prog 114 #[.slice sp l.length cap, .int .u16 (n : Int)] w fun e w' => e = .returned (.slice (some ⟨w.heap.size, 0, none⟩) (l.length + 2) (l.length + 2)) ∧
      OwnB w' w.heap.size (.slice (some ⟨w.heap.size, 0, none⟩) (l ++ leb n 2).length (l.length + 2)) (l ++ leb n 2) ∧ Below w.heap.size w w' := by
  obtain ⟨L, hL⟩ : ∃ L, l.length = L := ⟨_, rfl⟩
  have hc := put16_any l sp cap n w hl hn hS
  rw [hL] at hc ⊢
  have HC := Lib.hid hc
  clear hc hS hn hl hL
  go_enter Tryz.func114, Tryz.ntmps114
  go_wp2_with fail
  refine HC.out.mono ?_
  rintro e w' ⟨rfl, h1, h2⟩
  have H1 := Lib.hid h1
  have H2 := Lib.hid h2
  clear h1 h2
  go_wp2
  go_ret
  exact ⟨rfl, H1.out, H2.out⟩

set_option maxRecDepth 100000 in
set_option maxHeartbeats 1000000 in
theorem put32_any (l : List (BitVec 8)) (sp : Option Addr) (cap n : Nat) (w : World) (hl : l.length ≤ 100000) (hn : n < 2 ^ 32) (hS : SrcA w sp l) :
    Calls Tryz.prog 129 #[.slice sp l.length cap, .int .u32 (n : Int)] w fun e w' => e = .returned (.slice (some ⟨w.heap.size, 0, none⟩) (l.length + 4) (l.length + 4)) ∧
      OwnB w' w.heap.size (.slice (some ⟨w.heap.size, 0, none⟩) (l ++ leb n 4).length (l.length + 4)) (l ++ leb n 4) ∧ Below w.heap.size w w' := by
  obtain ⟨i0, hi, hz0, hz1, hz2⟩ := info_parts infoB
  have HS := Lib.hid hS
  obtain ⟨L, hL⟩ : ∃ L, l.length = L := ⟨_, rfl⟩
  rw [hL] at hl ⊢
  have HL := Lib.hid hL
  clear hS hL
  have hw := u64_in n (by omega)
  clear hn
  go_enter Tryz.func129, Tryz.ntmps129
  go_wp2_with (first
    | (go_at_call 135; refine (wd32_any _).mono ?_; rintro e w' ⟨rfl, rfl⟩)
    | (at_make; refine wpList_makeLC rfl _ _ 59 rfl 5 i0 (.int .u8 0) Tryz.underlying59 hi hz0 rfl hz1 .i64 .i64 _ _ L (L + 4) rfl rfl rfl (by omega) (by omega) (by rw [hz2]; omega) (by unfold maxLen; omega) ?_; intro w1 hb1 hb2; have HB1 := Lib.hid hb1; have HB2 := Lib.hid hb2; clear hb1 hb2)
    | (refine wpList_copy_splice rfl (.tmp 14) (.tmp 15) 59 59 rfl 5 Tryz.underlying59 sizeB (some ⟨w.heap.size, 0, none⟩) sp L (L + 4) L cap rfl rfl w.heap.size 0 _ 5 HB1.out (l.map V8) (by rw [List.length_map, HL.out]; simp) (src_pos (HS.out.grown HB2.out)) (by simp [HL.out]) (one_v8 l) w.heap.size w HB2.out (Nat.le_refl _) ?_; intro w2 hs2 hb3; have HP := Lib.hid hs2.out; have HB3 := Lib.hid hb3; clear hs2 hb3)
    | fail)
  have hR0 : PutRel (l ++ leb n 0) (L + 4) w (.slice (some ⟨w.heap.size, 0, none⟩) L (L + 4)) w2 := by
    have e : (l ++ leb n 0).length = L := by rw [List.length_append, HL.out, leb_length]; omega
    refine ⟨by rw [e], ?_, HB3.out⟩
    rw [e]
    exact owns_of_row (by simpa [leb] using HP.out) e (by omega) (by unfold maxLen; omega) (Nat.le_refl _)
  have HR0 := Lib.hid hR0
  clear hR0
  go_loopw [5, 18] (fun s i wr => ∃ k : Nat, k ≤ 4 ∧ i = .int .i64 k ∧ PutRel (l ++ leb n k) (L + 4) w s wr) (fun _ i _ => 4 - (intOf i).toNat)
  case atStart => exact ⟨0, by omega, rfl, HR0.out⟩
  case round =>
    clear HR0 HB1 HB2 HB3 HP
    obtain ⟨k, hk, rfl, hR⟩ := hrel
    obtain ⟨rfl, hown, hbel⟩ := hR
    have e : (l ++ leb n k).length = L + k := by rw [List.length_append, HL.out, leb_length]
    have HO := Lib.hid hown
    have HW := Lib.hid hbel
    have hsz : w.heap.size < wr.heap.size := (hown.lt _ rfl).2
    have HE := Lib.hid e
    have hown2 := hown
    unfold OwnB at hown2
    rw [e] at hown2
    have HO2 := Lib.hid hown2
    rw [e]
    clear hown2
    clear hown hbel e
    by_cases hlt : k < 4
    · have e2 := IntWalk.i64_in (8 * (k : Int)) (by omega)
      have p3 : 0 ≤ 8 * (k : Int) := by omega
      have r3 : (8 * (k : Int)).toNat = 8 * k := by omega
      have m3 : min (8 * k) 64 = 8 * k := by omega
      have l3 := lb_int n k
      have l4 := lb_mod n k
      have z1 := hz1
      clear hz1
      have HZ1 := Lib.hid z1
      clear z1
      go_wp2_with (first
        | (at_builtin; refine wpList_append_fits _ rfl (.tmp 21) (.tmp 28) 59 rfl w.heap.size 5 i0 1 Tryz.underlying59 hi HZ1.out w.heap.size (L + k) (L + 4) ((l ++ leb n k).map V8) rfl (HO2.out.alloc _) ⟨wr.heap.size, 0, none⟩ 1 1 [V8 (lb n k)] rfl rfl (one_at _ _ _) (one_cell8 _) (by omega) ?_; intro w2 ho hg)
        | fail)
      have HR2 : Hid (PutRel (l ++ leb n (k + 1)) (L + 4) w (.slice (some ⟨w.heap.size, 0, none⟩) (L + k + 1) (L + 4)) w2) := Lib.hid (by
        have e : (l ++ leb n (k + 1)).length = L + k + 1 := by rw [List.length_append, HL.out, leb_length]; omega
        refine ⟨by rw [e], ?_, (HW.out.alloc (by omega) _).grown hg (by simp; omega) (fun j hj => by cases hj; exact Nat.le_refl _)⟩
        unfold OwnB
        rw [e, leb_succ, ← List.append_assoc, List.map_append]
        exact ho)
      clear ho hg
      go_roundw
      case rel => exact ⟨k + 1, by omega, by go_num, HR2.out⟩
      case measure => simp [intOf]; omega
    · obtain rfl : k = 4 := by omega
      clear hlt hk
      go_wp2
      go_ret
      refine ⟨rfl, ?_, HW.out⟩
      exact HO.out
theorem pu32_any (l : List (BitVec 8)) (sp : Option Addr) (cap n : Nat) (w : World) (hl : l.length ≤ 100000) (hn : n < 2 ^ 32) (hS : SrcA w sp l) :
    Calls Tryz.prog 116 #[.slice sp l.length cap, .int .u32 (n : Int)] w fun e w' => e = .returned (.slice (some ⟨w.heap.size, 0, none⟩) (l.length + 4) (l.length + 4)) ∧
      OwnB w' w.heap.size (.slice (some ⟨w.heap.size, 0, none⟩) (l ++ leb n 4).length (l.length + 4)) (l ++ leb n 4) ∧ Below w.heap.size w w' := by
  obtain ⟨L, hL⟩ : ∃ L, l.length = L := ⟨_, rfl⟩
  have hc := put32_any l sp cap n w hl hn hS
  rw [hL] at hc ⊢
  have HC := Lib.hid hc
  clear hc hS hn hl hL
  go_enter Tryz.func116, Tryz.ntmps116
  go_wp2_with fail
  refine HC.out.mono ?_
  rintro e w' ⟨rfl, h1, h2⟩
  have H1 := Lib.hid h1
  have H2 := Lib.hid h2
  clear h1 h2
  go_wp2
  go_ret
  exact ⟨rfl, H1.out, H2.out⟩

set_option maxRecDepth 100000 in
set_option maxHeartbeats 1000000 in
theorem put64_any (l : List (BitVec 8)) (sp : Option Addr) (cap n : Nat) (w : World) (hl : l.length ≤ 100000) (hn : n < 2 ^ 64) (hS : SrcA w sp l) :
    Calls Tryz.prog 128 #[.slice sp l.length cap, .int .u64 (n : Int)] w fun e w' => e = .returned (.slice (some ⟨w.heap.size, 0, none⟩) (l.length + 8) (l.length + 8)) ∧
      OwnB w' w.heap.size (.slice (some ⟨w.heap.size, 0, none⟩) (l ++ leb n 8).length (l.length + 8)) (l ++ leb n 8) ∧ Below w.heap.size w w' := by
  obtain ⟨i0, hi, hz0, hz1, hz2⟩ := info_parts infoB
  have HS := Lib.hid hS
  obtain ⟨L, hL⟩ : ∃ L, l.length = L := ⟨_, rfl⟩
  rw [hL] at hl ⊢
  have HL := Lib.hid hL
  clear hS hL
  have hw := u64_in n (by omega)
  clear hn
  go_enter Tryz.func128, Tryz.ntmps128
  go_wp2_with (first
    | (go_at_call 134; refine (wd64_any _).mono ?_; rintro e w' ⟨rfl, rfl⟩)
    | (at_make; refine wpList_makeLC rfl _ _ 59 rfl 5 i0 (.int .u8 0) Tryz.underlying59 hi hz0 rfl hz1 .i64 .i64 _ _ L (L + 8) rfl rfl rfl (by omega) (by omega) (by rw [hz2]; omega) (by unfold maxLen; omega) ?_; intro w1 hb1 hb2; have HB1 := Lib.hid hb1; have HB2 := Lib.hid hb2; clear hb1 hb2)
    | (refine wpList_copy_splice rfl (.tmp 14) (.tmp 15) 59 59 rfl 5 Tryz.underlying59 sizeB (some ⟨w.heap.size, 0, none⟩) sp L (L + 8) L cap rfl rfl w.heap.size 0 _ 5 HB1.out (l.map V8) (by rw [List.length_map, HL.out]; simp) (src_pos (HS.out.grown HB2.out)) (by simp [HL.out]) (one_v8 l) w.heap.size w HB2.out (Nat.le_refl _) ?_; intro w2 hs2 hb3; have HP := Lib.hid hs2.out; have HB3 := Lib.hid hb3; clear hs2 hb3)
    | fail)
  have hR0 : PutRel (l ++ leb n 0) (L + 8) w (.slice (some ⟨w.heap.size, 0, none⟩) L (L + 8)) w2 := by
    have e : (l ++ leb n 0).length = L := by rw [List.length_append, HL.out, leb_length]; omega
    refine ⟨by rw [e], ?_, HB3.out⟩
    rw [e]
    exact owns_of_row (by simpa [leb] using HP.out) e (by omega) (by unfold maxLen; omega) (Nat.le_refl _)
  have HR0 := Lib.hid hR0
  clear hR0
  go_loopw [5, 18] (fun s i wr => ∃ k : Nat, k ≤ 8 ∧ i = .int .i64 k ∧ PutRel (l ++ leb n k) (L + 8) w s wr) (fun _ i _ => 8 - (intOf i).toNat)
  case atStart => exact ⟨0, by omega, rfl, HR0.out⟩
  case round =>
    clear HR0 HB1 HB2 HB3 HP
    obtain ⟨k, hk, rfl, hR⟩ := hrel
    obtain ⟨rfl, hown, hbel⟩ := hR
    have e : (l ++ leb n k).length = L + k := by rw [List.length_append, HL.out, leb_length]
    have HO := Lib.hid hown
    have HW := Lib.hid hbel
    have hsz : w.heap.size < wr.heap.size := (hown.lt _ rfl).2
    have HE := Lib.hid e
    have hown2 := hown
    unfold OwnB at hown2
    rw [e] at hown2
    have HO2 := Lib.hid hown2
    rw [e]
    clear hown2
    clear hown hbel e
    by_cases hlt : k < 8
    · have e2 := IntWalk.i64_in (8 * (k : Int)) (by omega)
      have p3 : 0 ≤ 8 * (k : Int) := by omega
      have r3 : (8 * (k : Int)).toNat = 8 * k := by omega
      have m3 : min (8 * k) 64 = 8 * k := by omega
      have l3 := lb_int n k
      have l4 := lb_mod n k
      have z1 := hz1
      clear hz1
      have HZ1 := Lib.hid z1
      clear z1
      go_wp2_with (first
        | (at_builtin; refine wpList_append_fits _ rfl (.tmp 21) (.tmp 27) 59 rfl w.heap.size 5 i0 1 Tryz.underlying59 hi HZ1.out w.heap.size (L + k) (L + 8) ((l ++ leb n k).map V8) rfl (HO2.out.alloc _) ⟨wr.heap.size, 0, none⟩ 1 1 [V8 (lb n k)] rfl rfl (one_at _ _ _) (one_cell8 _) (by omega) ?_; intro w2 ho hg)
        | fail)
      have HR2 : Hid (PutRel (l ++ leb n (k + 1)) (L + 8) w (.slice (some ⟨w.heap.size, 0, none⟩) (L + k + 1) (L + 8)) w2) := Lib.hid (by
        have e : (l ++ leb n (k + 1)).length = L + k + 1 := by rw [List.length_append, HL.out, leb_length]; omega
        refine ⟨by rw [e], ?_, (HW.out.alloc (by omega) _).grown hg (by simp; omega) (fun j hj => by cases hj; exact Nat.le_refl _)⟩
        unfold OwnB
        rw [e, leb_succ, ← List.append_assoc, List.map_append]
        exact ho)
      clear ho hg
      go_roundw
      case rel => exact ⟨k + 1, by omega, by go_num, HR2.out⟩
      case measure => simp [intOf]; omega
    · obtain rfl : k = 8 := by omega
      clear hlt hk
      go_wp2
      go_ret
      refine ⟨rfl, ?_, HW.out⟩
      exact HO.out
theorem pu64_any (l : List (BitVec 8)) (sp : Option Addr) (cap n : Nat) (w : World) (hl : l.length ≤ 100000) (hn : n < 2 ^ 64) (hS : SrcA w sp l) :
    Calls Tryz.prog 115 #[.slice sp l.length cap, .int .u64 (n : Int)] w fun e w' => e = .returned (.slice (some ⟨w.heap.size, 0, none⟩) (l.length + 8) (l.length + 8)) ∧
      OwnB w' w.heap.size (.slice (some ⟨w.heap.size, 0, none⟩) (l ++ leb n 8).length (l.length + 8)) (l ++ leb n 8) ∧ Below w.heap.size w w' := by
  obtain ⟨L, hL⟩ : ∃ L, l.length = L := ⟨_, rfl⟩
  have hc := put64_any l sp cap n w hl hn hS
  rw [hL] at hc ⊢
  have HC := Lib.hid hc
  clear hc hS hn hl hL
  go_enter Tryz.func115, Tryz.ntmps115
  go_wp2_with fail
  refine HC.out.mono ?_
  rintro e w' ⟨rfl, h1, h2⟩
  have H1 := Lib.hid h1
  have H2 := Lib.hid h2
  clear h1 h2
  go_wp2
  go_ret
  exact ⟨rfl, H1.out, H2.out⟩
end Go.Proofs.YtmgagalhpkieoaaGreatDoor
/- A reader: what it holds; how it goes over bytes. -/
namespace Go.Proofs.YtmgagalhpkieoaaGreatDoor
open Go.RowKit

end Go.Proofs.YtmgagalhpkieoaaGreatDoor
/- A reader goes over bytes: next; a number of each width. -/
namespace Go.Proofs.YtmgagalhpkieoaaGreatDoor
open Go.RowKit

theorem elemB : Tryz.prog.underlying 59 = some (.slice (Tryz.prog.elem 59)) := by kernel_rfl
theorem elemB' : Tryz.prog.elem 59 = 5 := by kernel_rfl
theorem sizeOfB (W : World) : (sizeOf 5).run Tryz.prog W = .ok 1 W := by
  obtain ⟨i, h1, h2⟩ := Option.map_eq_some_iff.1 sizeB
  simp [sizeOf, typeInfo, h1, h2]
theorem sliceTo (sp : Option Addr) (l c n : Nat) (hn : n ≤ c) : ∀ W : World, (Instr.sliceAt 59 (.slice sp l c) none (some (.int .i64 (n : Int))) none).run Tryz.prog W = .ok (.slice sp n c) W := fun W => by
  rw [run_sliceAt_slice W 59 _ _ _ _ elemB, run_slice_h W 59 sp l c elemB .i64 n (by omega) (by omega), elemB', sizeOfB]
  have e : Option.map (fun x : Addr => x.add 0) sp = sp := by cases sp with | none => rfl | some a => cases a; simp [Addr.add]
  simp [Result.andThen, sliced, e]

end Go.Proofs.YtmgagalhpkieoaaGreatDoor
