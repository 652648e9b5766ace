/- A plain mirror heals: what is read fits; it is read just if a copy is good; behind a check of calm disks each copy is good, or its address is sick. -/
import Derived.Test.YtmgagalhpkieoaaGreatDoorM40
namespace Go.Proofs.YtmgagalhpkieoaaGreatDoor
open Go.RowKit

theorem rd_look (s : Dsk) (p : Pw) (a : Nat) : readB s p a = if p.on then look s a else none := by
  unfold readB look idle
  cases s.dead <;> cases p.on <;> simp
theorem gd_good (x : Mi Dsk Sp) (p : Pt) (c : Cpy) : (gd kinD x p c).isSome = (x.p.on && gdL x p c) := by
  unfold gd gdL
  show (match readB (x.d c.1) x.p c.2 with | some b => if fitsP p b then some b else none | none => none).isSome = _
  rw [rd_look]
  cases x.p.on
  · rfl
  · simp only [if_true, Bool.true_and]
    cases look (x.d c.1) c.2 with
    | none => rfl
    | some b => simp only; cases fitsP p b <;> rfl
theorem first_till (x : Mi Dsk Sp) (p : Pt) : ∀ l : List Cpy, (firstG kinD x p (till (fun c => (gd kinD x p c).isSome) l)).isSome = l.any fun c => (gd kinD x p c).isSome
  | [] => rfl
  | c :: l => by
    have ih := first_till x p l
    unfold firstG at ih ⊢
    unfold till
    cases h : gd kinD x p c with
    | none =>
      simp only [Option.isSome_none, Bool.false_eq_true, if_false, List.findSome?_cons, h, List.any_cons, Bool.false_or]
      exact ih
    | some b => simp [h, List.findSome?_cons]
theorem first_all (x : Mi Dsk Sp) (p : Pt) : ∀ l : List Cpy, (firstG kinD x p l).isSome = l.any fun c => (gd kinD x p c).isSome
  | [] => rfl
  | c :: l => by
    have ih := first_all x p l
    unfold firstG at ih ⊢
    cases h : gd kinD x p c with
    | none =>
      simp only [List.findSome?_cons, h, List.any_cons, Option.isSome_none, Bool.false_or]
      exact ih
    | some b => simp [h, List.findSome?_cons]
theorem first_seen (x : Mi Dsk Sp) (p : Pt) (all : Bool) : (firstG kinD x p (seen kinD x p all)).isSome = (copiesP p).any fun c => (gd kinD x p c).isSome := by
  unfold seen
  cases all
  · exact first_till x p _
  · exact first_all x p _
/-- It is read, or checked, just if a copy is good and the power is on. -/
theorem heal_iff {x : Mi Dsk Sp} {p : Pt} (hm : mayP p = true) (all : Bool) : healE kinD x p all = 0 ↔ (0 < goodN x p p.ats ∧ x.p.on = true) := by
  unfold healE
  rw [if_pos hm, first_seen]
  have e : ((copiesP p).any fun c => (gd kinD x p c).isSome) = true ↔ (0 < goodN x p p.ats ∧ x.p.on = true) := by
    unfold goodN
    rw [List.any_eq_true, List.countP_pos_iff]
    constructor
    · rintro ⟨c, hc, h⟩
      rw [gd_good, Bool.and_eq_true] at h
      exact ⟨⟨c, hc, h.2⟩, h.1⟩
    · rintro ⟨⟨c, hc, h⟩, hon⟩
      exact ⟨c, hc, by rw [gd_good, hon, h]; rfl⟩
  rw [← e]
  cases (copiesP p).any fun c => (gd kinD x p c).isSome <;> simp
theorem heal_eio {x : Mi Dsk Sp} {p : Pt} (hm : mayP p = true) (all : Bool) (h : healE kinD x p all ≠ 0) : healE kinD x p all = 21 := by
  unfold healE at h ⊢
  rw [if_pos hm] at h ⊢
  split
  · rename_i h1; rw [if_pos h1] at h; exact absurd rfl h
  · rfl
theorem heal_may {x : Mi Dsk Sp} {p : Pt} (hm : mayP p = false) (all : Bool) : healE kinD x p all = 1 := by
  unfold healE
  rw [if_neg (by simp [hm])]
theorem findSome_mem {α β : Type} {f : α → Option β} {b : β} : ∀ {l : List α}, l.findSome? f = some b → ∃ a ∈ l, f a = some b
  | [], h => by simp at h
  | a :: l, h => by
    rw [List.findSome?_cons] at h
    cases hf : f a with
    | none =>
      rw [hf] at h
      obtain ⟨c, hc, h1⟩ := findSome_mem h
      exact ⟨c, by simp [hc], h1⟩
    | some b' =>
      rw [hf] at h
      exact ⟨a, by simp, by rw [hf]; exact h⟩
/-- What is read fits. -/
theorem heal_fits {x : Mi Dsk Sp} {p : Pt} {all : Bool} {b : Bs} (h : healB kinD x p all = some b) : fitsP p b = true := by
  unfold healB at h
  split at h
  · obtain ⟨c, _, h1⟩ := findSome_mem h
    exact gd_fits kinD h1
  · cases h
theorem heal_some {x : Mi Dsk Sp} {p : Pt} {all : Bool} (h : healE kinD x p all = 0) : ∃ b, healB kinD x p all = some b := by
  unfold healE at h
  unfold healB
  split at h
  · rename_i hm
    rw [if_pos hm]
    split at h
    · rename_i h1; exact Option.isSome_iff_exists.1 h1
    · cases h
  · cases h
/-- Nothing is armed. -/
def CalmD (s : Dsk) : Prop := s.dead = true ∨ (s.lose = false ∧ s.astray = none)
structure Calm8 (x : Mi Dsk Sp) : Prop where
  p : x.p = ⟨true, -1⟩
  d : ∀ k, k < 2 → CalmD (x.d k)
theorem wrote_calm {s : Dsk} (h : CalmD s) (a : Nat) (b : Bs) : (wrote s ⟨true, -1⟩ a b).2.2 = ⟨true, -1⟩ ∧ ((wrote s ⟨true, -1⟩ a b).2.1 = s ∨ (wrote s ⟨true, -1⟩ a b).2.1 = kept s a b) := by
  unfold wrote idle Pw.step
  cases hd : s.dead
  · obtain ⟨hl, ha⟩ : s.lose = false ∧ s.astray = none := h.resolve_left (by simp [hd])
    by_cases hc : a < s.n ∧ b.length = 512
    · simp [hc, hl, ha]
    · simp [hc]
  · simp
theorem kept_calm {s : Dsk} (h : CalmD s) (a : Nat) (b : Bs) : CalmD (kept s a b) := by
  unfold kept
  split
  · exact h
  · exact h
theorem look_kept {s : Dsk} {a a' : Nat} (b : Bs) (h : a' ≠ a) : look (kept s a b) a' = look s a' := by
  unfold kept
  split
  · unfold look tells
    simp only
    rw [lastOf_snoc]
    simp only [if_neg (Ne.symm h)]
  · rfl
theorem gdL_d {x y : Mi Dsk Sp} {p : Pt} {c : Cpy} (h : look (x.d c.1) c.2 = look (y.d c.1) c.2) : gdL x p c = gdL y p c := by unfold gdL; rw [h]
theorem wrote1_calm {x : Mi Dsk Sp} (h : Calm8 x) (b : Bs) {c : Cpy} (hc : c.1 < 2) : Calm8 (wrote1 kinD x b c).2 ∧ (∀ p c', c' ≠ c → gdL (wrote1 kinD x b c).2 p c' = gdL x p c') := by
  have hw := wrote_calm (h.d c.1 hc) c.2 b
  have e : wrote1 kinD x b c = ((wrote (x.d c.1) x.p c.2 b).1, { x with d := upk x.d c.1 (wrote (x.d c.1) x.p c.2 b).2.1, p := (wrote (x.d c.1) x.p c.2 b).2.2 }) := rfl
  rw [e, h.p]
  refine ⟨⟨hw.1, fun k hk => ?_⟩, fun p c' hne => gdL_d ?_⟩
  · show CalmD (upk x.d c.1 _ k)
    by_cases ek : k = c.1
    · subst ek
      rw [upk_same]
      rcases hw.2 with e1 | e1
      · rw [e1]; exact h.d _ hk
      · rw [e1]; exact kept_calm (h.d _ hk) _ _
    · rw [upk_other _ _ ek]; exact h.d k hk
  · show look (upk x.d c.1 _ c'.1) c'.2 = look (x.d c'.1) c'.2
    by_cases ek : c'.1 = c.1
    · rw [ek, upk_same]
      rcases hw.2 with e1 | e1
      · rw [e1]
      · rw [e1]; exact look_kept b (fun e2 => hne (Prod.ext ek e2))
    · rw [upk_other _ _ ek]
def SpN (x : Mi Dsk Sp) (N : Nat) : Prop := ∀ k, k < 2 → (x.s k).length = N - 1
/-- A copy is good, or out of the disk, or its address is sick. -/
def okC (N : Nat) (x : Mi Dsk Sp) (p : Pt) (c : Cpy) : Prop := gdL x p c = true ∨ N ≤ c.2 ∨ isS x.s c.1 c.2 = true
theorem oneS_len (s : Sp) (d a : Nat) (A : Ax → Ax) (k : Nat) : (oneS s d a A k).length = (s k).length := by
  unfold oneS
  cases (s d)[a - 1]? with
  | none => rfl
  | some x =>
    simp only
    split
    · rfl
    · by_cases e : k = d
      · subst e; rw [put_same, List.length_set]
      · rw [put_other _ _ e]
theorem sick_self {s : Sp} {d a N : Nat} (hl : (s d).length = N - 1) (h0 : 0 < a) (ha : a < N) : isS (oneS s d a (fun x => { x with sick := true })) d a = true := by
  obtain ⟨x, hx⟩ : ∃ x, (s d)[a - 1]? = some x := ⟨_, List.getElem?_eq_getElem (by omega)⟩
  have hlt : a - 1 < (s d).length := by omega
  unfold oneS isS
  rw [hx]
  simp only
  rw [if_neg (by omega), put_same, List.getElem?_set_self hlt]
  simp only
  rw [if_neg (by omega)]
theorem sick_mono {s : Sp} {d a d' a' : Nat} (h : isS s d' a' = true) : isS (oneS s d a (fun x => { x with sick := true })) d' a' = true := by
  unfold oneS
  cases hx : (s d)[a - 1]? with
  | none => exact h
  | some x =>
    simp only
    split
    · exact h
    · by_cases e : d' = d
      · subst e
        unfold isS at h ⊢
        rw [put_same]
        by_cases e2 : a - 1 = a' - 1
        · rw [← e2] at h ⊢
          rw [hx] at h
          rw [List.getElem?_set_self (List.getElem?_eq_some_iff.1 hx).1]
          simp only at h ⊢
          split
          · rename_i h3; rw [if_pos h3] at h; exact h
          · rfl
        · rw [List.getElem?_set_ne e2]; exact h
      · unfold isS at h ⊢
        rw [put_other _ _ e]; exact h
theorem mend1_calm {N : Nat} {x : Mi Dsk Sp} (h : Calm8 x) (hs : SpN x N) (p : Pt) (b : Bs) {c : Cpy} (hc : c.1 < 2) (h0 : 0 < c.2) :
    Calm8 (mend1 kinD p b x c) ∧ SpN (mend1 kinD p b x c) N ∧ (∀ c', okC N x p c' ∨ c' = c → okC N (mend1 kinD p b x c) p c') ∧ ∀ k, ((mend1 kinD p b x c).d k).dead = (x.d k).dead := by
  obtain ⟨h1, h2⟩ := wrote1_calm h b hc
  have hdead : ∀ k, ((wrote1 kinD x b c).2.d k).dead = (x.d k).dead := fun k => by
    show (upk x.d c.1 (wrote (x.d c.1) x.p c.2 b).2.1 k).dead = _
    by_cases e : k = c.1
    · subst e; rw [upk_same]; exact (wrote_lim _ _ _ _).2.2
    · rw [upk_other _ _ e]
  unfold mend1
  split
  · rename_i hg
    refine ⟨⟨h1.p, h1.d⟩, hs, fun c' hc' => ?_, hdead⟩
    by_cases e : c' = c
    · subst e
      rw [gd_good, Bool.and_eq_true] at hg
      exact .inl hg.2
    · rcases hc'.resolve_right e with g | g | g
      · exact .inl ((h2 p c' e).trans g)
      · exact .inr (.inl g)
      · exact .inr (.inr g)
  · refine ⟨⟨h1.p, h1.d⟩, fun k hk => by show (oneS x.s c.1 c.2 _ k).length = _; rw [oneS_len]; exact hs k hk, fun c' hc' => ?_, hdead⟩
    by_cases e : c' = c
    · subst e
      by_cases hn : c'.2 < N
      · exact .inr (.inr (sick_self (hs _ hc) h0 hn))
      · exact .inr (.inl (by omega))
    · rcases hc'.resolve_right e with g | g | g
      · exact .inl ((h2 p c' e).trans g)
      · exact .inr (.inl g)
      · exact .inr (.inr (sick_mono g))
theorem mends_calm {N : Nat} (p : Pt) (b : Bs) : ∀ (l : List Cpy) (x : Mi Dsk Sp), Calm8 x → SpN x N → (∀ c ∈ l, c.1 < 2 ∧ 0 < c.2) →
    (∀ c', okC N x p c' ∨ c' ∈ l → okC N (mends kinD p b x l) p c') ∧ ∀ k, ((mends kinD p b x l).d k).dead = (x.d k).dead
  | [], x, _, _, _ => ⟨fun c' h => h.resolve_right (by simp), fun _ => rfl⟩
  | c :: l, x, h, hs, hl => by
    obtain ⟨h1, h2, h3, h4⟩ := mend1_calm (N := N) h hs p b (hl c (by simp)).1 (hl c (by simp)).2
    obtain ⟨g1, g2⟩ := mends_calm p b l _ h1 h2 (fun c hc => hl c (by simp [hc]))
    refine ⟨fun c' hc' => ?_, fun k => (g2 k).trans (h4 k)⟩
    show okC N (mends kinD p b (mend1 kinD p b x c) l) p c'
    rcases hc' with hc' | hc'
    · exact g1 c' (.inl (h3 c' (.inl hc')))
    · rcases List.mem_cons.1 hc' with e | e
      · exact g1 c' (.inl (h3 c' (.inr e)))
      · exact g1 c' (.inr e)
/-- Behind a check of calm disks. -/
theorem check_calm {N : Nat} {x : Mi Dsk Sp} (h : Calm8 x) (hs : SpN x N) {p : Pt} (hp : p.OK) (he : healE kinD x p true = 0) :
    ∀ c ∈ copiesP p, ((healS kinD x p true).d c.1).dead = false → okC N (healS kinD x p true) p c := by
  obtain ⟨b, hb⟩ := heal_some he
  have hm : mayP p = true := by
    cases hm : mayP p
    · rw [heal_may hm] at he; cases he
    · rfl
  have hf : firstG kinD x p (copiesP p) = some b := by
    unfold healB at hb
    rw [if_pos hm] at hb
    exact hb
  have e : healS kinD x p true = mends kinD p b (founds x (ill kinD x p (copiesP p))) (ill kinD x p (copiesP p)) := by
    unfold healS
    rw [if_pos hm]
    show endS kinD x p (copiesP p) = _
    unfold endS
    rw [hf]
  rw [e]
  intro c hc hd
  have hok := cps_ok hp
  obtain ⟨g1, g2⟩ := mends_calm (N := N) p b (ill kinD x p (copiesP p)) (founds x (ill kinD x p (copiesP p))) ⟨h.p, h.d⟩ hs (fun c hc => by
    have := hok c (List.mem_filter.1 hc).1
    exact ⟨this.1, this.2.1⟩)
  rw [g2] at hd
  refine g1 c ?_
  by_cases hg : (gd kinD x p c).isSome = true
  · left
    rw [gd_good, Bool.and_eq_true] at hg
    exact .inl hg.2
  · right
    refine List.mem_filter.2 ⟨hc, ?_⟩
    have hd' : (x.d c.1).dead = false := hd
    show (!(gd kinD x p c).isSome && !(x.d c.1).dead) = true
    rw [hd']
    simp [hg]
/-- Spaces keep their lengths. -/
theorem mend1_sp {N : Nat} {x : Mi Dsk Sp} (hs : SpN x N) (p : Pt) (b : Bs) (c : Cpy) : SpN (mend1 kinD p b x c) N := by
  unfold mend1
  split
  · exact hs
  · exact fun k hk => by show (oneS x.s c.1 c.2 _ k).length = _; rw [oneS_len]; exact hs k hk
theorem mends_sp {N : Nat} (p : Pt) (b : Bs) : ∀ (l : List Cpy) (x : Mi Dsk Sp), SpN x N → SpN (mends kinD p b x l) N
  | [], _, h => h
  | c :: l, _, h => mends_sp p b l _ (mend1_sp h p b c)
theorem heal_sp {N : Nat} {x : Mi Dsk Sp} (hs : SpN x N) (p : Pt) (all : Bool) : SpN (healS kinD x p all) N := by
  unfold healS endS
  split
  · split
    · exact mends_sp p _ _ _ hs
    · exact hs
  · exact hs
theorem wrotes_sp {N : Nat} (b : Bs) : ∀ (l : List Cpy) (e : Int) (x : Mi Dsk Sp), SpN x N → SpN (l.foldl (fun r c => (if (wrote1 kinD r.2 b c).1 = 0 then 0 else r.1, (wrote1 kinD r.2 b c).2)) (e, x)).2 N
  | [], _, _, h => h
  | c :: l, _, x, h => by
    simp only [List.foldl_cons]
    exact wrotes_sp b l _ _ (show SpN (wrote1 kinD x b c).2 N from h)
theorem fault_sp {N : Nat} {x : Mi Dsk Sp} (hs : SpN x N) (a : Ac) : SpN (faultS x a) N := by
  have e : (faultS x a).s = x.s := by
    unfold faultS
    repeat' split
    all_goals rfl
  unfold SpN
  rw [e]
  exact hs
theorem act_sp {N : Nat} {x : Mi Dsk Sp} (hs : SpN x N) (m : Ma) : SpN (doS x m) N := by
  unfold doS
  split
  · exact heal_sp hs _ _
  · split
    · exact heal_sp hs _ _
    · split
      · unfold writeR
        split
        · split
          · exact wrotes_sp _ _ _ _ hs
          · exact hs
        · exact hs
      · split
        · exact hs
        · split
          · exact hs
          · exact fault_sp hs _
theorem start_sp (n : Nat) : SpN (start n) n := fun k _ => by
  show (freshS (n - 1) (n - 1) k).length = _
  unfold freshS
  simp
/-- Flush, then a crash that keeps nothing: the disk is calm. -/
theorem calm_one {x : Mi Dsk Sp} (hp : x.p = ⟨true, -1⟩) (k : Nat) : (fl1 kinD x k).2.p = ⟨true, -1⟩ ∧ CalmD (crashed ((fl1 kinD x k).2.d k) []) ∧ (∀ i, i ≠ k → (fl1 kinD x k).2.d i = x.d i) ∧ (fl1 kinD x k).2.s = x.s := by
  have e : (fl1 kinD x k).2 = { x with d := upk x.d k (flushed (x.d k) x.p).2.1, p := (flushed (x.d k) x.p).2.2 } := rfl
  rw [e, hp]
  refine ⟨?_, ?_, fun i hi => upk_other _ _ hi, rfl⟩
  · show (flushed (x.d k) ⟨true, -1⟩).2.2 = _
    unfold flushed idle Pw.step
    cases (x.d k).dead <;> simp
  · unfold CalmD crashed
    split
    · rename_i h; exact .inl h
    · exact .inr ⟨rfl, rfl⟩
end Go.Proofs.YtmgagalhpkieoaaGreatDoor
