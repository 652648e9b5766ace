/- The document's Alloc. -/
import Derived.Test.YtmgagalhpkieoaaGreatDoorM25
import Derived.Deep.DeepCutAuto
import Derived.Deep.CutBlock
import Derived.Test.YtmgagalhpkieoaaGreatDoorM24
namespace Go.Proofs.YtmgagalhpkieoaaGreatDoor
open Go.RowKit

structure RdLook (w : World) (R : Nat) (rd : Rdk) (s0 s1 s2 : Option Addr) (c0 c1 c2 : Nat) : Prop where
  n : w.cell? ⟨R, 0, none⟩ = some (.int .i64 (rd.n : Int))
  u : w.cell? ⟨R, 1, none⟩ = some (.slice s0 (rd.l 0).length c0)
  h : w.cell? ⟨R, 2, none⟩ = some (.slice s1 (rd.l 1).length c1)
  s : w.cell? ⟨R, 3, none⟩ = some (.slice s2 (rd.l 2).length c2)
  su : SrcU w s0 (rd.l 0)
  sh : SrcU w s1 (rd.l 1)
  ss : SrcU w s2 (rd.l 2)
theorem RdIn.look {w : World} {lo : Nat} {lab : Nat → Nat} {b R : Nat} {v : Nat → Value} {rd : Rdk} (h : RdIn w lo lab b R v rd) : ∃ s0 s1 s2 c0 c1 c2, v 0 = .slice s0 (rd.l 0).length c0 ∧ v 1 = .slice s1 (rd.l 1).length c1 ∧ v 2 = .slice s2 (rd.l 2).length c2 ∧ RdLook w R rd s0 s1 s2 c0 c1 c2 := by
  obtain ⟨s0, c0, e0, _, _, h0, _⟩ := (h.row 0 (by omega)).1.form
  obtain ⟨s1, c1, e1, _, _, h1, _⟩ := (h.row 1 (by omega)).1.form
  obtain ⟨s2, c2, e2, _, _, h2, _⟩ := (h.row 2 (by omega)).1.form
  exact ⟨s0, s1, s2, c0, c1, c2, e0, e1, e2, h.blk.cell rfl, e0 ▸ h.blk.cell rfl, e1 ▸ h.blk.cell rfl, e2 ▸ h.blk.cell rfl, h0, h1, h2⟩
end Go.Proofs.YtmgagalhpkieoaaGreatDoor
/- The document's Act. -/
namespace Go.Proofs.YtmgagalhpkieoaaGreatDoor
open Go.RowKit

set_option maxRecDepth 100000 in
set_option maxHeartbeats 4000000 in
theorem ract_far (w : World) (R : Nat) (rd : Rdk) (s0 s1 s2 : Option Addr) (k0 k1 k2 : Nat) (o : Int) (a : Nat) (h : RdLook w R rd s0 s1 s2 k0 k1 k2) (h0 : 1 ≤ a) (ha : a < 65536) (hn : rd.n ≤ a) : Calls Tryz.prog 88 #[.pointer (some ⟨R, 0, none⟩), .int .i64 o, .int .u16 (a : Int)] w fun e w' => e = .returned (.int .i64 1) ∧ w = w' := by
  have c0 := h.n
  obtain ⟨n, hn2⟩ : ∃ n, rd.n = n := ⟨_, rfl⟩
  rw [hn2] at c0 hn
  have wk := IntWalk.i64_in (a : Int) (by omega)
  have q0 : ((a : Int) == 0) = false := by simp; omega
  have q1 : decide (n ≤ a) = true := by simpa using hn
  clear h hn2
  go_enter Tryz.func88, Tryz.ntmps88
  go_wp2_with fail
  go_ret
  exact ⟨rfl, rfl⟩
set_option maxRecDepth 100000 in
set_option maxHeartbeats 4000000 in
theorem ract_sick (w : World) (lo : Nat) (lab : Nat → Nat) (b R : Nat) (v : Nat → Value) (rd : Rdk) (a : Nat) (h : RdIn w lo lab b R v rd) (hl : ∀ i, i < 3 → (rd.l i).length ≤ 999) (h0 : 1 ≤ a) (ha : a < 65536) (hn : a < rd.n) : Calls Tryz.prog 88 #[.pointer (some ⟨R, 0, none⟩), .int .i64 3, .int .u16 (a : Int)] w fun e w' => e = .returned (.int .i64 0) ∧ RdPost w lo lab b R (rd.set 2 (wo (rd.l 2) a ++ [a])) w' := by
  obtain ⟨s0, s1, s2, k0, k1, k2, e0, e1, e2, hlk⟩ := h.look
  have HI := Lib.hid h
  have HE0 := Lib.hid e0; have HE1 := Lib.hid e1; have HE2 := Lib.hid e2
  clear e0 e1 e2
  have H := Lib.hid hlk
  have c0 := hlk.n; have c1 := hlk.u; have c2 := hlk.h; have c3 := hlk.s
  have f1 := h.blk.free 1; have f2 := h.blk.free 2; have f3 := h.blk.free 3
  have HL := Lib.hid hl
  obtain ⟨n, hn2⟩ : ∃ n, rd.n = n := ⟨_, rfl⟩
  have HN := Lib.hid hn2
  rw [hn2] at c0 hn
  have wk := IntWalk.i64_in (a : Int) (by omega)
  have q0 : ((a : Int) == 0) = false := by simp; omega
  have q1 : decide (n ≤ a) = false := by simpa using hn
  clear h hl hn2 hlk
  obtain ⟨bu, hu⟩ : ∃ bu, hasB (rd.l 0) a = bu := ⟨_, rfl⟩
  have HH0 := Lib.hid hu
  clear hu
  go_enter Tryz.func88, Tryz.ntmps88
  go_wp2_with fail
  refine (has_any s0 k0 _ a _ (Nat.le_succ_of_le (HL.out 0 (by omega))) H.out.su).mono ?_
  rw [HH0.out]
  rintro e w' ⟨rfl, rfl⟩
  go_wp2_with fail
  refine (without_any s2 k2 _ a _ (Nat.le_succ_of_le (HL.out 2 (by omega))) H.out.ss (fun g o s he => by
    subst he
    have h1 := (HI.out.row 2 (by omega)).1
    rw [HE2.out] at h1
    exact (h1.blk rfl).2.1)).mono ?_
  rintro e w3 ⟨v', rfl, ho, hb⟩
  have hb1 : Below w3.heap.size w3 (w3.alloc (.cells #[.int .u16 (a : Int)] 52)) := (Below.refl _ _).alloc (Nat.le_refl _) _
  have hwl : (wo (rd.l 2) a).length ≤ 1000 := Nat.le_trans (List.length_filter_le _ _) (Nat.le_succ_of_le (HL.out 2 (by omega)))
  obtain ⟨v4, w4, hr4, ho4, hg4, _⟩ := ownU_app (ho.below hb1) (Nat.le_trans hb.size hb1.size) hwl (m := [a]) (by simp) (c := 1) (k_src_one w3 a) (by simp) 47
  have hb4 : Below w.heap.size w w4 := (hb.trans (hb1.mono hb.size)).grown hg4 (Nat.le_trans hb.size hb1.size) (fun q hq => (ho.blk hq).1)
  obtain ⟨d1, d2, d3⟩ := HI.out.new (i := 2) (by omega) hb4 ho4
  rw [HE2.out] at d1
  obtain ⟨s3, c3', e3, _⟩ := ho.form
  obtain ⟨s5, c5, e5, _⟩ := ho4.form
  rw [List.length_append, List.length_singleton] at e5
  obtain ⟨nw, hnw⟩ : ∃ nw, (wo (rd.l 2) a).length = nw := ⟨_, rfl⟩
  rw [hnw] at e3 e5
  subst e3 e5
  have HR4 := Lib.hid hr4
  have HP3 := Lib.hid d3
  clear d3 ho hb ho4 hr4 hg4 hb1 hb4 hwl hnw
  go_wp2_with (first | (at_builtin; refine k_wpL_val rfl (ex_appU rfl rfl rfl HR4.out) ?_) | fail)
  go_ret
  exact ⟨rfl, HP3.out⟩
end Go.Proofs.YtmgagalhpkieoaaGreatDoor
/- The space's addresses and the document's lists say the same: plain. -/
namespace Go.Proofs.YtmgagalhpkieoaaGreatDoor
open Go.RowKit

def atB (p : Ax → Bool) (l : List Ax) (a : Nat) : Bool := match l[a - 1]? with | some x => if a = 0 then false else p x | none => false
theorem atB_succ (p : Ax → Bool) {l : List Ax} {i : Nat} {x : Ax} (h : l[i]? = some x) : atB p l (i + 1) = p x := by
  unfold atB
  rw [Nat.add_sub_cancel, h]
  simp
theorem atB_zero (p : Ax → Bool) (l : List Ax) : atB p l 0 = false := by
  unfold atB
  cases l[0 - 1]? <;> simp
theorem atB_set (p : Ax → Bool) {l : List Ax} {i : Nat} {x : Ax} (y : Ax) (h : l[i]? = some x) (a : Nat) : atB p (l.set i y) a = if a = i + 1 then p y else atB p l a := by
  have hi := (List.getElem?_eq_some_iff.1 h).1
  cases a with
  | zero => rw [atB_zero, atB_zero]; simp
  | succ j =>
    by_cases e : j = i
    · subst e
      rw [if_pos rfl]
      exact atB_succ p (by rw [List.getElem?_set]; simp [hi])
    · rw [if_neg (by omega)]
      unfold atB
      rw [Nat.add_sub_cancel, List.getElem?_set, if_neg (fun h => e h.symm)]
structure Good (p : Ax → Bool) (l : List Ax) (m : List Nat) : Prop where
  nodup : m.Nodup
  len : m.length = cnt p l
  has : ∀ a, hasB m a = atB p l a
theorem hasB_snoc (m : List Nat) (c a : Nat) : hasB (m ++ [c]) a = (hasB m a || a == c) := by rw [Bool.eq_iff_iff]; simp [hasB]
theorem hasB_wo (m : List Nat) (c a : Nat) : hasB (wo m c) a = (hasB m a && a != c) := by
  rw [Bool.eq_iff_iff, hasB_iff, Bool.and_eq_true, hasB_iff]
  unfold wo
  rw [List.mem_filter]
theorem wo_length : ∀ (m : List Nat) (c : Nat), m.Nodup → c ∈ m → (wo m c).length + 1 = m.length
  | [], _, _, h => by simp at h
  | b :: m, c, hn, h => by
    rw [List.nodup_cons] at hn
    by_cases e : b = c
    · subst e
      have : wo m b = m := by
        unfold wo
        rw [List.filter_eq_self]
        intro x hx
        simp only [bne_iff_ne, ne_eq]
        intro e2
        subst e2
        exact hn.1 hx
      unfold wo at this ⊢
      rw [List.filter_cons_of_neg (by simp), this]
      simp
    · have hm : c ∈ m := by
        rcases List.mem_cons.1 h with h | h
        · exact absurd h.symm e
        · exact h
      have := wo_length m c hn.2 hm
      unfold wo at this ⊢
      rw [List.filter_cons_of_pos (by simpa using e)]
      simp only [List.length_cons]
      omega
theorem wo_none {m : List Nat} {c : Nat} (h : hasB m c = false) : wo m c = m := by
  unfold wo
  rw [List.filter_eq_self]
  intro x hx
  simp only [bne_iff_ne, ne_eq]
  intro e
  subst e
  rw [(hasB_iff m x).2 hx] at h
  cases h
section
variable {p : Ax → Bool} {l : List Ax} {m : List Nat} {i : Nat} {x y : Ax}
theorem Good.same (h : Good p l m) (hx : l[i]? = some x) (hp : p y = p x) : Good p (l.set i y) m := by
  refine ⟨h.nodup, ?_, fun a => ?_⟩
  · have := cnt_set p l i x y hx
    rw [hp] at this
    rw [h.len]
    omega
  · rw [h.has, atB_set p y hx]
    by_cases e : a = i + 1
    · subst e; rw [if_pos rfl, atB_succ p hx, hp]
    · rw [if_neg e]
theorem Good.on (h : Good p l m) (hx : l[i]? = some x) (h0 : p x = false) (h1 : p y = true) : Good p (l.set i y) (m ++ [i + 1]) := by
  have hno : hasB m (i + 1) = false := by rw [h.has, atB_succ p hx, h0]
  refine ⟨?_, ?_, fun a => ?_⟩
  · rw [List.nodup_append]
    refine ⟨h.nodup, by simp, fun a ha b hb e => ?_⟩
    obtain rfl : b = i + 1 := by simpa using hb
    subst e
    rw [(hasB_iff m _).2 ha] at hno
    cases hno
  · have := cnt_set p l i x y hx
    rw [h0, h1] at this
    rw [List.length_append, h.len]
    simp at this ⊢
    omega
  · rw [hasB_snoc, h.has, atB_set p y hx]
    by_cases e : a = i + 1
    · subst e; simp [h1]
    · rw [if_neg e, beq_false_of_ne e, Bool.or_false]
theorem Good.off (h : Good p l m) (hx : l[i]? = some x) (h0 : p x = true) (h1 : p y = false) : Good p (l.set i y) (wo m (i + 1)) := by
  have hyes : hasB m (i + 1) = true := by rw [h.has, atB_succ p hx, h0]
  refine ⟨?_, ?_, fun a => ?_⟩
  · exact h.nodup.filter _
  · have := cnt_set p l i x y hx
    have h3 := wo_length m (i + 1) h.nodup ((hasB_iff _ _).1 hyes)
    rw [h0, h1] at this
    rw [h.len] at h3
    simp at this
    omega
  · rw [hasB_wo, h.has, atB_set p y hx]
    by_cases e : a = i + 1
    · subst e; simp [h1]
    · rw [if_neg e, bne_iff_ne.2 e, Bool.and_true]
end
structure SimD (l : List Ax) (rd : Rdk) : Prop where
  n : rd.n = l.length + 1
  is : ∀ (i : Nat) (x : Ax), l[i]? = some x → x.is < 3
  u : Good (isB 1) l (rd.l 0)
  h : Good (isB 2) l (rd.l 1)
  s : Good sickB l (rd.l 2)
section
variable {l : List Ax} {rd : Rdk} {i : Nat} {x : Ax}
theorem SimD.is_set (h : SimD l rd) {y : Ax} (hy : y.is < 3) : ∀ (j : Nat) (z : Ax), (l.set i y)[j]? = some z → z.is < 3 := fun j z hz => by
  rw [List.getElem?_set] at hz
  split at hz
  · split at hz
    · cases hz; exact hy
    · cases hz
  · exact h.is j z hz
theorem SimD.fall (h : SimD l rd) (hx : l[i]? = some x) : SimD (l.set i { x with sick := true }) (rd.set 2 (wo (rd.l 2) (i + 1) ++ [i + 1])) := by
  have hi := (List.getElem?_eq_some_iff.1 hx).1
  refine ⟨by rw [List.length_set]; exact h.n, h.is_set (h.is i x hx), h.u.same hx rfl, h.h.same hx rfl, ?_⟩
  show Good sickB _ (wo (rd.l 2) (i + 1) ++ [i + 1])
  have g0 : Good sickB (l.set i { x with sick := false }) (wo (rd.l 2) (i + 1)) := by
    cases hs : x.sick with
    | true => exact h.s.off hx hs rfl
    | false =>
      have e : ({ x with sick := false } : Ax) = x := by cases x; simp at hs; subst hs; rfl
      rw [e, set_same _ _ _ hx, wo_none (by rw [h.s.has, atB_succ sickB hx]; exact hs)]
      exact h.s
  have g1 := g0.on (i := i) (x := { x with sick := false }) (y := { x with sick := true }) (by rw [List.getElem?_set]; simp [hi]) rfl rfl
  rw [List.set_set] at g1
  exact g1
theorem cnt_rep (p : Ax → Bool) (x : Ax) (hp : p x = false) : ∀ n, cnt p (List.replicate n x) = 0
  | 0 => rfl
  | n + 1 => by simp [List.replicate_succ, cnt, hp, cnt_rep p x hp n]
theorem good_fresh (p : Ax → Bool) (x : Ax) (hp : p x = false) (n : Nat) : Good p (List.replicate n x) [] := by
  refine ⟨List.nodup_nil, (cnt_rep p x hp n).symm, fun a => ?_⟩
  unfold atB
  rw [List.getElem?_replicate]
  by_cases h : a - 1 < n
  · rw [if_pos h]
    simp [hasB, hp]
  · rw [if_neg h]
    rfl
theorem SimD.fresh (n : Nat) : SimD (List.replicate n ⟨0, false⟩) ⟨n + 1, fun _ => []⟩ :=
  ⟨by simp, fun i x hx => by obtain rfl := List.eq_of_mem_replicate (List.mem_of_getElem? hx); simp, good_fresh _ _ rfl n, good_fresh _ _ rfl n, good_fresh _ _ rfl n⟩
end
end Go.Proofs.YtmgagalhpkieoaaGreatDoor
/- The program's kind of disk and space, and the document's: they tell the same. -/
namespace Go.Proofs.YtmgagalhpkieoaaGreatDoor
open Go.RowKit

def kinD : Kin Dsk Sp := ⟨readB, wrote, flushed, Dsk.dead, fun s k a => oneS s k a (fun x => { x with sick := true })⟩
def fell (s : Nat → Rdk) (k a : Nat) : Nat → Rdk := if a < (s k).n then upk s k ((s k).set 2 (wo ((s k).l 2) a ++ [a])) else s
def kinR : Kin Rsk (Nat → Rdk) := ⟨fun t p a => if rreadE t p a = 0 then some (rreadB t p a) else none, rwrote, rflushed, Rsk.dead, fell⟩
theorem readE_some (s : Dsk) (p : Pw) (a : Nat) : readE s p a = 0 ↔ (readB s p a).isSome = true := by
  unfold readE readB
  split
  · rename_i h
    simp [h]
  · split
    · split <;> simp_all
    · simp
theorem fell_sim {s : Sp} {t : Nat → Rdk} (h : ∀ k, k < 2 → SimD (s k) (t k)) {k a : Nat} (hk : k < 2) (ha : 0 < a) : ∀ i, i < 2 → SimD (oneS s k a (fun x => { x with sick := true }) i) (fell t k a i) := by
  have hn := (h k hk).n
  intro i hi
  unfold oneS fell
  by_cases hlt : a < (t k).n
  · rw [if_pos hlt]
    obtain ⟨x, hx⟩ : ∃ x, (s k)[a - 1]? = some x := ⟨_, List.getElem?_eq_getElem (by omega)⟩
    rw [hx]
    simp only
    rw [if_neg (by omega)]
    by_cases e : i = k
    · subst e
      rw [upk_same, put_same]
      have := (h i hi).fall hx
      rw [show a - 1 + 1 = a by omega] at this
      exact this
    · rw [upk_other _ _ e, put_other _ _ e]
      exact h i hi
  · rw [if_neg hlt]
    have : (s k)[a - 1]? = none := List.getElem?_eq_none (by omega)
    rw [this]
    exact h i hi
def SpT (s : Sp) (t : Nat → Rdk) : Prop := ∀ k, k < 2 → SimD (s k) (t k)
theorem alike : Alike kinD kinR Sim SpT where
  rd d e p a h := by
    show readB d p a = if rreadE e p a = 0 then some (rreadB e p a) else none
    rw [h.readE, h.readB]
    cases hb : readB d p a with
    | none =>
      have : ¬ readE d p a = 0 := fun h0 => by have := (readE_some d p a).1 h0; rw [hb] at this; simp at this
      rw [if_neg this]
    | some b =>
      rw [if_pos ((readE_some d p a).2 (by rw [hb]; rfl))]
      rfl
  wr d e p a b h := by
    have := h.write p a b
    exact ⟨this.1.symm, this.2.1, this.2.2.symm⟩
  fl d e p h := by
    have := h.flush p
    exact ⟨this.1.symm, this.2.1, this.2.2.symm⟩
  dead d e h := h.dead.symm
  sick s t k a hk ha h := fell_sim h hk ha
end Go.Proofs.YtmgagalhpkieoaaGreatDoor
/- How many there can be of what a plain mirror counts and keeps. -/
namespace Go.Proofs.YtmgagalhpkieoaaGreatDoor
open Go.RowKit

theorem kept_lim (s : Dsk) (a : Nat) (b : d_Bs) : (kept s a b).cache.length ≤ s.cache.length + 1 ∧ (kept s a b).n = s.n ∧ (kept s a b).dead = s.dead := by
  unfold kept
  split <;> simp
theorem wrote_lim (s : Dsk) (p : Pw) (a : Nat) (b : d_Bs) : (wrote s p a b).2.1.cache.length ≤ s.cache.length + 1 ∧ (wrote s p a b).2.1.n = s.n ∧ (wrote s p a b).2.1.dead = s.dead := by
  unfold wrote
  split
  · simp
  · split
    · split
      · simp
      · split
        · simp
        · split
          · have := kept_lim { s with astray := none } ‹Nat› b
            simpa using this
          · exact kept_lim s a b
    · simp
theorem flushed_lim (s : Dsk) (p : Pw) : (flushed s p).2.1.cache.length ≤ s.cache.length ∧ (flushed s p).2.1.n = s.n ∧ (flushed s p).2.1.dead = s.dead := by
  unfold flushed
  split
  · simp
  · split <;> simp
structure Lim (x : Mi Dsk Sp) (n : Nat) : Prop where
  c : ∀ k, k < 2 → (x.d k).cache.length ≤ n
  f : ∀ k, x.f k ≤ n
  g : ∀ k, x.g k ≤ n
  mv : x.mv.length ≤ n
theorem Lim.mono {x : Mi Dsk Sp} {n m : Nat} (h : Lim x n) (hm : n ≤ m) : Lim x m :=
  ⟨fun k hk => Nat.le_trans (h.c k hk) hm, fun k => Nat.le_trans (h.f k) hm, fun k => Nat.le_trans (h.g k) hm, Nat.le_trans h.mv hm⟩
theorem addMv_len (l : List Pt) (p : Pt) : (addMv l p).length ≤ l.length + 1 := by
  unfold addMv
  split <;> simp
theorem Lim.wrote1 {x : Mi Dsk Sp} {n : Nat} (h : Lim x n) (b : Bs) {c : Cpy} : Lim (wrote1 kinD x b c).2 (n + 1) := by
  have hw := wrote_lim (x.d c.1) x.p c.2 b
  refine ⟨fun k hk => ?_, fun k => Nat.le_succ_of_le (h.f k), fun k => Nat.le_succ_of_le (h.g k), Nat.le_succ_of_le h.mv⟩
  show (upk x.d c.1 (wrote (x.d c.1) x.p c.2 b).2.1 k).cache.length ≤ n + 1
  by_cases e : k = c.1
  · subst e
    rw [upk_same]
    have := h.c _ hk
    omega
  · rw [upk_other _ _ e]
    have := h.c k hk
    omega
theorem Lim.mend1 {x : Mi Dsk Sp} {n : Nat} (h : Lim x n) (p : Pt) (b : Bs) (c : Cpy) : Lim (mend1 kinD p b x c) (n + 1) := by
  have h1 := h.wrote1 b (c := c)
  unfold Go.Proofs.YtmgagalhpkieoaaGreatDoor.mend1
  split
  · refine ⟨h1.c, h1.f, fun k => ?_, h1.mv⟩
    show upk x.g c.1 (x.g c.1 + 1) k ≤ n + 1
    by_cases e : k = c.1
    · subst e; rw [upk_same]; have := h.g c.1; omega
    · rw [upk_other _ _ e]; have := h.g k; omega
  · refine ⟨h1.c, h1.f, h1.g, ?_⟩
    show (addMv x.mv p).length ≤ n + 1
    have := addMv_len x.mv p
    have := h.mv
    omega
theorem Lim.mends (p : Pt) (b : Bs) : ∀ (l : List Cpy) (x : Mi Dsk Sp) (n : Nat), Lim x n → Lim (mends kinD p b x l) (n + l.length)
  | [], _, _, h => h
  | c :: l, _, n, h => by
    have := Lim.mends p b l _ _ (h.mend1 p b c)
    simp only [List.length_cons]
    rw [show n + (l.length + 1) = n + 1 + l.length by omega]
    exact this
theorem cntC_le (l : List Cpy) (k : Nat) : cntC l k ≤ l.length := List.countP_le_length
theorem Lim.founds {x : Mi Dsk Sp} {n : Nat} (h : Lim x n) (l : List Cpy) : Lim (founds x l) (n + l.length) :=
  ⟨fun k hk => Nat.le_trans (h.c k hk) (by omega), fun k => by show x.f k + cntC l k ≤ _; have := h.f k; have := cntC_le l k; omega, fun k => Nat.le_trans (h.g k) (by omega), Nat.le_trans h.mv (by omega)⟩
theorem q_copies_len : ∀ (l : List Nat) (i : Nat), (copiesFrom i l).length ≤ l.length
  | [], _ => by simp [copiesFrom]
  | a :: l, i => by
    have := q_copies_len l (i + 1)
    unfold copiesFrom
    split <;> simp <;> omega
theorem copies_len {p : Pt} (hp : p.OK) : (copiesP p).length ≤ 4 := by
  have := q_copies_len p.ats 0
  rw [hp.len] at this
  exact this
theorem till_len (g : Cpy → Bool) : ∀ l : List Cpy, (till g l).length ≤ l.length
  | [] => by simp [till]
  | a :: l => by
    have := till_len g l
    unfold till
    split <;> simp
    omega
theorem ill_len {δ σ : Type} (o : Kin δ σ) (x : Mi δ σ) {p : Pt} (hp : p.OK) (all : Bool) : (ill o x p (seen o x p all)).length ≤ 4 := by
  have h1 : (ill o x p (seen o x p all)).length ≤ (seen o x p all).length := List.length_filter_le _ _
  have h2 : (seen o x p all).length ≤ (copiesP p).length := by
    unfold seen
    split
    · exact Nat.le_refl _
    · exact till_len _ _
  have := copies_len hp
  omega
theorem Lim.heal {x : Mi Dsk Sp} {n : Nat} (h : Lim x n) {p : Pt} (hp : p.OK) (all : Bool) : Lim (healS kinD x p all) (n + 8) := by
  have hl := ill_len kinD x hp all
  have h1 := h.founds (ill kinD x p (seen kinD x p all))
  unfold healS endS
  split
  · split
    · exact (Lim.mends p _ _ _ _ h1).mono (by omega)
    · exact h1.mono (by omega)
  · exact h.mono (by omega)
theorem Lim.wrotes (b : Bs) : ∀ (l : List Cpy) (e : Int) (x : Mi Dsk Sp) (n : Nat), Lim x n → Lim (l.foldl (fun r c => (if (Go.Proofs.YtmgagalhpkieoaaGreatDoor.wrote1 kinD r.2 b c).1 = 0 then 0 else r.1, (Go.Proofs.YtmgagalhpkieoaaGreatDoor.wrote1 kinD r.2 b c).2)) (e, x)).2 (n + l.length)
  | [], _, _, _, h => h
  | c :: l, e, _, n, h => by
    simp only [List.foldl_cons, List.length_cons]
    rw [show n + (l.length + 1) = n + 1 + l.length by omega]
    exact Lim.wrotes b l _ _ _ (h.wrote1 b)
theorem Lim.write {x : Mi Dsk Sp} {n : Nat} (h : Lim x n) {p : Pt} (hp : p.OK) (b : Bs) : Lim (writeR kinD x p b).2 (n + 8) := by
  have := copies_len hp
  unfold writeR
  split
  · split
    · exact (Lim.wrotes b _ _ _ _ h).mono (by omega)
    · exact h.mono (by omega)
  · exact h.mono (by omega)
theorem Lim.fl1 {x : Mi Dsk Sp} {n : Nat} (h : Lim x n) (k : Nat) : Lim (fl1 kinD x k).2 n := by
  refine ⟨fun i hi => ?_, h.f, h.g, h.mv⟩
  show (upk x.d k (flushed (x.d k) x.p).2.1 i).cache.length ≤ n
  by_cases e : i = k
  · subst e
    rw [upk_same]
    exact Nat.le_trans (flushed_lim _ _).1 (h.c i hi)
  · rw [upk_other _ _ e]
    exact h.c i hi
theorem Lim.flush {x : Mi Dsk Sp} {n : Nat} (h : Lim x n) : Lim (flushR kinD x).2 (n + 8) := ((h.fl1 0).fl1 1).mono (by omega)
theorem cps_ok {p : Pt} (hp : p.OK) : ∀ c ∈ copiesP p, c.1 < 2 ∧ 0 < c.2 ∧ c.2 < 65536 := fun c hc => by
  rw [← cps_val hp] at hc
  obtain ⟨y, _, rfl⟩ := List.mem_map.1 hc
  exact ⟨y.2.1, y.2.2.1, y.2.2.2⟩
end Go.Proofs.YtmgagalhpkieoaaGreatDoor
