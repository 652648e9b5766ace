/- The program's disk and the document's tell the same. -/
import Derived.Test.YtmgagalhpkieoaaDoorM09
namespace Go.Proofs.YtmgagalhpkieoaaDoor
open Go.RowKit

/-- The document's disk is the program's. -/
structure Sim (s : Dsk) (t : Rsk) : Prop where
  n : t.n = s.n
  b : ∀ a, (s.mem a).b = rblock t a
  bad : ∀ a, (s.mem a).bad = t.bad.contains a
  stuck : ∀ a, (s.mem a).stuck = t.stuck.contains a
  cache : t.cache = s.cache
  dead : t.dead = s.dead
  lose : t.lose = s.lose
  astray : t.astray = s.astray
theorem last_others : ∀ (l : List (Nat × d_Bs)) (r : Option d_Bs) (a x : Nat), x ≠ a → (others l a).foldl (fun r y => if y.1 = x then some y.2 else r) r = l.foldl (fun r y => if y.1 = x then some y.2 else r) r
  | [], _, _, _, _ => rfl
  | y :: l, r, a, x, hx => by
    unfold others
    by_cases h : y.1 = a
    · have h2 : ¬ y.1 = x := fun e => hx (e ▸ h)
      rw [List.filter_cons_of_neg (by simp [h])]
      simp only [List.foldl_cons, if_neg h2]
      exact last_others l r a x hx
    · rw [List.filter_cons_of_pos (by simp [h])]
      simp only [List.foldl_cons]
      exact last_others l _ a x hx
theorem block_put (t : Rsk) (a : Nat) (b : d_Bs) (x : Nat) : (lastOf (others t.m a ++ [(a, b)]) x).getD zeros = if x = a then b else rblock t x := by
  rw [lastOf_snoc]
  by_cases h : x = a
  · rw [if_pos h.symm, if_pos h]
    rfl
  · rw [if_neg (fun e => h e.symm), if_neg h]
    unfold rblock lastOf
    rw [last_others _ _ _ _ h]
theorem wo_has (l : List Nat) (a x : Nat) : (woN l a).contains x = (if x = a then false else l.contains x) := by
  unfold woN
  by_cases h : x = a
  · rw [if_pos h]
    simp [h]
  · rw [if_neg h, Bool.eq_iff_iff]
    simp [h]
theorem Sim.came {s : Dsk} {t : Rsk} (h : Sim s t) (a : Nat) (b : d_Bs) {n : Nat} {z : Int} (hz : z = (n : Int)) : Sim { s with mem := come1 s.mem a b z } (rcame t a b n) := by
  subst hz
  have hm : ∀ x, come1 s.mem a b (n : Int) x = if x = a then ⟨b.take n ++ (s.mem a).b.drop n, false, (s.mem a).stuck⟩ else s.mem x := fun x => by
    unfold come1
    rw [if_neg (by omega)]
    simp [Upd]
  refine ⟨h.n, fun x => ?_, fun x => ?_, fun x => ?_, h.cache, h.dead, h.lose, h.astray⟩
  · show (come1 s.mem a b (n : Int) x).b = (lastOf (others t.m a ++ [(a, _)]) x).getD zeros
    rw [hm, block_put]
    by_cases hx : x = a
    · rw [if_pos hx, if_pos hx, h.b a]
    · rw [if_neg hx, if_neg hx, h.b x]
  · show (come1 s.mem a b (n : Int) x).bad = (woN t.bad a).contains x
    rw [hm, wo_has]
    by_cases hx : x = a
    · rw [if_pos hx, if_pos hx]
    · rw [if_neg hx, if_neg hx, h.bad x]
  · show (come1 s.mem a b (n : Int) x).stuck = t.stuck.contains x
    rw [hm]
    by_cases hx : x = a
    · rw [if_pos hx, ← h.stuck x, hx]
    · rw [if_neg hx, h.stuck x]
theorem Sim.looks {s : Dsk} {t : Rsk} (h : Sim s t) (a : Nat) : rlook t a = look s a := by
  unfold rlook look tells
  rw [h.dead, h.n, ← h.stuck a, h.cache, ← h.bad a, ← h.b a]
  cases lastOf s.cache a <;> rfl
/-- How many writes have come. -/
theorem Sim.settles {s : Dsk} {t : Rsk} (h : Sim s t) (zs : List Int) : ∀ k, Sim { s with mem := settled (pickOf zs) s.cache s.mem k } (rset zs t k)
  | 0 => h
  | k + 1 => by
    have ih := h.settles zs k
    cases hx : t.cache[k]? with
    | none =>
      have hx' : s.cache[k]? = none := by rw [← h.cache]; exact hx
      have e1 : settled (pickOf zs) s.cache s.mem (k + 1) = settled (pickOf zs) s.cache s.mem k := by simp [settled, hx']
      have e2 : rset zs t (k + 1) = rset zs t k := by simp [rset, hx]
      rw [e1, e2]
      exact ih
    | some x =>
      have hx' : s.cache[k]? = some x := by rw [← h.cache]; exact hx
      rw [settled_succ hx']
      rcases pickOf_bounds zs k with hp | ⟨hp, _⟩
      · rw [rset_none hp]
        have e : come1 (settled (pickOf zs) s.cache s.mem k) x.1 x.2 (pickOf zs k) = settled (pickOf zs) s.cache s.mem k := by unfold come1; rw [if_pos hp]
        rw [e]
        exact ih
      · have hn : pickOf zs k = ((pickOf zs k).toNat : Int) := by omega
        rw [rset_some hx hn]
        exact ih.came x.1 x.2 hn
theorem Sim.flushes {s : Dsk} {t : Rsk} (h : Sim s t) : ∀ k, k ≤ t.cache.length → Sim { s with mem := settled (fun _ => 512) s.cache s.mem k } (rall t (t.cache.take k))
  | 0, _ => by simpa [rall, settled] using h
  | k + 1, hk => by
    have ih := h.flushes k (by omega)
    obtain ⟨x, hx⟩ : ∃ x, t.cache[k]? = some x := ⟨_, List.getElem?_eq_getElem (by omega)⟩
    have hx' : s.cache[k]? = some x := by rw [← h.cache]; exact hx
    rw [settled_succ hx', take_one hx, rall_snoc]
    exact ih.came x.1 x.2 (by rfl)
theorem Sim.crash {s : Dsk} {t : Rsk} (h : Sim s t) (zs : List Int) : Sim (crashed s zs) (rcrashed t zs) := by
  unfold crashed rcrashed
  rw [h.dead]
  by_cases hd : s.dead = true
  · rw [if_pos hd, if_pos hd]
    exact h
  · rw [if_neg hd, if_neg hd]
    have := h.settles zs s.cache.length
    rw [show t.cache.length = s.cache.length by rw [h.cache]]
    exact ⟨this.n, this.b, this.bad, this.stuck, rfl, this.dead, rfl, rfl⟩
theorem step_off {p : Pw} (h : ¬ p.on = true) : p.step = (false, p) := by
  have h' : p.on = false := by simpa using h
  unfold Pw.step
  rw [if_pos h']
theorem Sim.flush {s : Dsk} {t : Rsk} (h : Sim s t) (p : Pw) : (rflushed t p).1 = (flushed s p).1 ∧ Sim (flushed s p).2.1 (rflushed t p).2.1 ∧ (rflushed t p).2.2 = (flushed s p).2.2 := by
  by_cases hd : s.dead = true
  · have e1 : flushed s p = (3, s, p) := by simp [flushed, idle, hd]
    have e2 : rflushed t p = (3, t, p) := by simp [rflushed, h.dead, hd]
    rw [e1, e2]
    exact ⟨rfl, h, rfl⟩
  · have hd' : s.dead = false := by simpa using hd
    by_cases hon : p.on = true
    · by_cases hst : p.step.1 = false
      · have e1 : flushed s p = (3, s, p.step.2) := by simp [flushed, idle, hd', hon, hst]
        have e2 : rflushed t p = (3, t, p.step.2) := by simp [rflushed, h.dead, hd', hst]
        rw [e1, e2]
        exact ⟨rfl, h, rfl⟩
      · have e1 : flushed s p = (0, { s with mem := settled (fun _ => 512) s.cache s.mem s.cache.length, cache := [] }, p.step.2) := by unfold flushed idle; rw [hd', hon]; simp [hst]
        have e2 : rflushed t p = (0, { rall t t.cache with cache := [] }, p.step.2) := by unfold rflushed; rw [h.dead, hd']; simp [hst]
        rw [e1, e2]
        have hf := h.flushes t.cache.length (Nat.le_refl _)
        rw [List.take_length, show t.cache.length = s.cache.length by rw [h.cache]] at hf
        exact ⟨rfl, ⟨hf.n, hf.b, hf.bad, hf.stuck, rfl, hf.dead, hf.lose, hf.astray⟩, rfl⟩
    · have e1 : flushed s p = (3, s, p) := by simp [flushed, idle, hd', hon]
      have e2 : rflushed t p = (3, t, p) := by simp [rflushed, h.dead, hd', step_off hon]
      rw [e1, e2]
      exact ⟨rfl, h, rfl⟩
theorem Sim.keep {s : Dsk} {t : Rsk} (h : Sim s t) (a : Nat) (b : d_Bs) : Sim (kept s a b) (rkept t a b) := by
  by_cases ha : a < s.n
  · have e1 : kept s a b = { s with cache := s.cache ++ [(a, b)] } := by unfold kept; rw [if_pos ha]
    have e2 : rkept t a b = { t with cache := t.cache ++ [(a, b)] } := by unfold rkept; rw [h.n, if_pos ha]
    rw [e1, e2]
    exact ⟨h.n, h.b, h.bad, h.stuck, by show t.cache ++ _ = s.cache ++ _; rw [h.cache], h.dead, h.lose, h.astray⟩
  · have e1 : kept s a b = s := by unfold kept; rw [if_neg ha]
    have e2 : rkept t a b = t := by unfold rkept; rw [h.n, if_neg ha]
    rw [e1, e2]
    exact h
theorem Sim.write {s : Dsk} {t : Rsk} (h : Sim s t) (p : Pw) (a : Nat) (b : d_Bs) : (rwrote t p a b).1 = (wrote s p a b).1 ∧ Sim (wrote s p a b).2.1 (rwrote t p a b).2.1 ∧ (rwrote t p a b).2.2 = (wrote s p a b).2.2 := by
  by_cases hd : s.dead = true
  · have e1 : wrote s p a b = (3, s, p) := by simp [wrote, idle, hd]
    have e2 : rwrote t p a b = (3, t, p) := by simp [rwrote, h.dead, hd]
    rw [e1, e2]
    exact ⟨rfl, h, rfl⟩
  · have hd' : s.dead = false := by simpa using hd
    by_cases hon : p.on = true
    · by_cases hn : a < s.n ∧ b.length = 512
      · obtain ⟨hn1, hn2⟩ := hn
        have hdt : ¬ t.dead = true := by rw [h.dead]; exact hd
        have hnt : a < t.n := by rw [h.n]; exact hn1
        have e1 : wrote s p a b = (if p.step.1 = false then ((3 : Int), s, p.step.2) else if s.lose then (0, { s with lose := false }, p.step.2) else match s.astray with | some t => (0, kept { s with astray := none } t b, p.step.2) | none => (0, kept s a b, p.step.2)) := by
          have hi : idle s p = 0 := by simp [idle, hd', hon]
          unfold wrote
          rw [if_neg (by rw [hi]; simp), if_pos ⟨hn1, hn2⟩]
          cases s.astray <;> rfl
        have e2 : rwrote t p a b = (if p.step.1 = false then ((3 : Int), t, p.step.2) else if t.lose then (0, { t with lose := false }, p.step.2) else match t.astray with | some x => (0, rkept { t with astray := none } x b, p.step.2) | none => (0, rkept t a b, p.step.2)) := by
          unfold rwrote
          rw [if_neg hdt, if_neg (by rw [hon]; simp), if_pos hnt, if_pos hn2]
          cases t.astray <;> rfl
        rw [e1, e2]
        by_cases hst : p.step.1 = false
        · rw [if_pos hst, if_pos hst]
          exact ⟨rfl, h, rfl⟩
        · rw [if_neg hst, if_neg hst]
          by_cases hlo : s.lose = true
          · rw [if_pos hlo, if_pos (by rw [h.lose]; exact hlo)]
            exact ⟨rfl, ⟨h.n, h.b, h.bad, h.stuck, h.cache, h.dead, rfl, h.astray⟩, rfl⟩
          · rw [if_neg hlo, if_neg (by rw [h.lose]; exact hlo)]
            have hq : Sim { s with astray := none } { t with astray := none } := ⟨h.n, h.b, h.bad, h.stuck, h.cache, h.dead, h.lose, rfl⟩
            have ha := h.astray
            generalize s.astray = os at ha
            generalize t.astray = ot at ha
            subst ha
            cases ot with
            | none => exact ⟨rfl, h.keep a b, rfl⟩
            | some x => exact ⟨rfl, hq.keep x b, rfl⟩
      · have e1 : wrote s p a b = (1, s, p) := by unfold wrote idle; rw [hd', hon]; simp [hn]
        have e2 : rwrote t p a b = (1, t, p) := by
          unfold rwrote
          rw [h.dead, hd', hon, h.n]
          simp only [Bool.false_eq_true, if_false, Bool.true_eq_false]
          by_cases h1 : a < s.n
          · rw [if_pos h1, if_neg (fun h2 => hn ⟨h1, h2⟩)]
          · rw [if_neg h1]
        rw [e1, e2]
        exact ⟨rfl, h, rfl⟩
    · have e1 : wrote s p a b = (3, s, p) := by simp [wrote, idle, hd', hon]
      have e2 : rwrote t p a b = (3, t, p) := by simp [rwrote, h.dead, hd', hon]
      rw [e1, e2]
      exact ⟨rfl, h, rfl⟩
/-- What a fault does to both. -/
theorem Sim.rot {s : Dsk} {t : Rsk} (h : Sim s t) (a : Nat) (b : d_Bs) : (rfault t 0 a b).1 = (ailed s a b.length (rotK b)).1 ∧ Sim (ailed s a b.length (rotK b)).2 (rfault t 0 a b).2 := by
  unfold ailed rfault
  have hnt : a < t.n ↔ a < s.n := by rw [h.n]
  by_cases hn : a < s.n
  · by_cases hb : b.length = 512
    · rw [if_pos (hnt.2 hn), if_neg (show ¬ (0 = 0 ∧ b.length ≠ 512) from fun h => h.2 hb), if_pos (show a < s.n ∧ b.length = 512 from ⟨hn, hb⟩)]
      refine ⟨rfl, ⟨h.n, fun x => ?_, fun x => ?_, fun x => ?_, by show others t.cache a = others s.cache a; rw [h.cache], h.dead, h.lose, h.astray⟩⟩
      · show (Upd s.mem a (rotK b (s.mem a)) x).b = (lastOf (others t.m a ++ [(a, b)]) x).getD zeros
        rw [block_put]
        by_cases hx : x = a
        · simp [Upd, rotK, hx, hb]
        · simp [Upd, hx, h.b x]
      · show (Upd s.mem a (rotK b (s.mem a)) x).bad = t.bad.contains x
        by_cases hx : x = a
        · rw [← h.bad x]; simp [Upd, rotK, hx, hb]
        · rw [← h.bad x]; simp [Upd, hx]
      · show (Upd s.mem a (rotK b (s.mem a)) x).stuck = t.stuck.contains x
        by_cases hx : x = a
        · rw [← h.stuck x]; simp [Upd, rotK, hx, hb]
        · rw [← h.stuck x]; simp [Upd, hx]
    · rw [if_pos (hnt.2 hn), if_pos (show 0 = 0 ∧ b.length ≠ 512 from ⟨rfl, hb⟩), if_neg (show ¬ (a < s.n ∧ b.length = 512) from fun h => hb h.2)]
      exact ⟨rfl, h⟩
  · rw [if_neg (fun h => hn (hnt.1 h)), if_neg (fun h => hn h.1)]
    exact ⟨rfl, h⟩
theorem has_app (l : List Nat) (a x : Nat) : (woN l a ++ [a]).contains x = (if x = a then true else l.contains x) := by
  rw [List.contains_append, wo_has]
  by_cases h : x = a
  · simp [h]
  · simp [h]
theorem Sim.bads {s : Dsk} {t : Rsk} (h : Sim s t) (a : Nat) (b : d_Bs) : (rfault t 1 a b).1 = (ailed s a 512 (fun k => { k with bad := true })).1 ∧ Sim (ailed s a 512 (fun k => { k with bad := true })).2 (rfault t 1 a b).2 := by
  unfold ailed rfault
  have hnt : a < t.n ↔ a < s.n := by rw [h.n]
  by_cases hn : a < s.n
  · rw [if_pos (hnt.2 hn), if_neg (fun h => absurd h.1 (by decide)), if_pos (show a < s.n ∧ 512 = 512 from ⟨hn, rfl⟩)]
    refine ⟨rfl, ⟨h.n, fun x => ?_, fun x => ?_, fun x => ?_, by show others t.cache a = others s.cache a; rw [h.cache], h.dead, h.lose, h.astray⟩⟩
    · show (Upd s.mem a { s.mem a with bad := true } x).b = rblock t x
      by_cases hx : x = a
      · rw [← h.b x]; simp [Upd, hx]
      · rw [← h.b x]; simp [Upd, hx]
    · show (Upd s.mem a { s.mem a with bad := true } x).bad = (woN t.bad a ++ [a]).contains x
      rw [has_app]
      by_cases hx : x = a
      · simp [Upd, hx]
      · simp only [Upd, hx, if_false]; exact h.bad x
    · show (Upd s.mem a { s.mem a with bad := true } x).stuck = t.stuck.contains x
      by_cases hx : x = a
      · rw [← h.stuck x]; simp [Upd, hx]
      · rw [← h.stuck x]; simp [Upd, hx]
  · rw [if_neg (fun h => hn (hnt.1 h)), if_neg (fun h => hn h.1)]
    exact ⟨rfl, h⟩
theorem Sim.sticks {s : Dsk} {t : Rsk} (h : Sim s t) (a : Nat) (b : d_Bs) : (rfault t 2 a b).1 = (ailed s a 512 (fun k => { k with stuck := true })).1 ∧ Sim (ailed s a 512 (fun k => { k with stuck := true })).2 (rfault t 2 a b).2 := by
  unfold ailed rfault
  have hnt : a < t.n ↔ a < s.n := by rw [h.n]
  by_cases hn : a < s.n
  · rw [if_pos (hnt.2 hn), if_neg (fun h => absurd h.1 (by decide)), if_pos (show a < s.n ∧ 512 = 512 from ⟨hn, rfl⟩)]
    refine ⟨rfl, ⟨h.n, fun x => ?_, fun x => ?_, fun x => ?_, by show others t.cache a = others s.cache a; rw [h.cache], h.dead, h.lose, h.astray⟩⟩
    · show (Upd s.mem a { s.mem a with stuck := true } x).b = rblock t x
      by_cases hx : x = a
      · rw [← h.b x]; simp [Upd, hx]
      · rw [← h.b x]; simp [Upd, hx]
    · show (Upd s.mem a { s.mem a with stuck := true } x).bad = t.bad.contains x
      by_cases hx : x = a
      · rw [← h.bad x]; simp [Upd, hx]
      · rw [← h.bad x]; simp [Upd, hx]
    · show (Upd s.mem a { s.mem a with stuck := true } x).stuck = (woN t.stuck a ++ [a]).contains x
      rw [has_app]
      by_cases hx : x = a
      · simp [Upd, hx]
      · simp only [Upd, hx, if_false]; exact h.stuck x
  · rw [if_neg (fun h => hn (hnt.1 h)), if_neg (fun h => hn h.1)]
    exact ⟨rfl, h⟩
theorem sim_fresh (n : Nat) : Sim (fresh n) ⟨n, [], [], [], [], false, false, none⟩ := ⟨rfl, fun _ => rfl, fun _ => rfl, fun _ => rfl, rfl, rfl, rfl, rfl⟩
theorem Sim.readE {s : Dsk} {t : Rsk} (h : Sim s t) (p : Pw) (a : Nat) : rreadE t p a = Go.Proofs.YtmgagalhpkieoaaDoor.readE s p a := by
  unfold rreadE Go.Proofs.YtmgagalhpkieoaaDoor.readE
  rw [h.looks a, h.dead, h.n]
  unfold look idle
  by_cases hd : s.dead = true
  · simp [hd]
  · by_cases hon : p.on = true
    · by_cases hn : a < s.n
      · simp [hd, hon, hn]
      · simp [hd, hon, hn]
    · simp [hd, hon]
theorem Sim.readB {s : Dsk} {t : Rsk} (h : Sim s t) (p : Pw) (a : Nat) : rreadB t p a = (Go.Proofs.YtmgagalhpkieoaaDoor.readB s p a).getD [] := by
  unfold rreadB Go.Proofs.YtmgagalhpkieoaaDoor.readB
  rw [h.looks a, h.dead, h.n]
  unfold look idle
  by_cases hd : s.dead = true
  · simp [hd]
  · by_cases hon : p.on = true
    · by_cases hn : a < s.n
      · simp [hd, hon, hn]
      · simp [hd, hon, hn]
    · simp [hd, hon]
end Go.Proofs.YtmgagalhpkieoaaDoor
