/- Trees, plain: Set on a whole tree. -/
import Derived.Test.YtfcjeceoedfldaaDoorM29
import Derived.Test.YtfcjeceoedfldaaDoorM28
import Derived.Test.YtfcjeceoedfldaaDoorM27
namespace Go.Proofs.YtfcjeceoedfldaaDoor
open Go.RowKit

def upFrom (f : Nat → List Pt) (a k : Nat) : List Pt := (List.range' a k).flatMap f
theorem upFrom_succ (f : Nat → List Pt) (a k : Nat) : upFrom f a (k + 1) = f a ++ upFrom f (a + 1) k := by unfold upFrom; rw [List.range'_succ, List.flatMap_cons]
theorem upFrom_nil {f : Nat → List Pt} : ∀ (k a : Nat), (∀ i, a ≤ i → i < a + k → f i = []) → upFrom f a k = []
  | 0, _, _ => rfl
  | k + 1, a, h => by rw [upFrom_succ, h a (by omega) (by omega), upFrom_nil k (a + 1) (fun i h1 h2 => h i (by omega) (by omega))]; rfl
theorem upFrom_congr {f f' : Nat → List Pt} : ∀ (k a : Nat), (∀ i, a ≤ i → i < a + k → f i = f' i) → upFrom f a k = upFrom f' a k
  | 0, _, _ => rfl
  | k + 1, a, h => by rw [upFrom_succ, upFrom_succ, h a (by omega) (by omega), upFrom_congr k (a + 1) (fun i h1 h2 => h i (by omega) (by omega))]
theorem upFrom_jump {f : Nat → List Pt} : ∀ (d a k : Nat), (∀ i, a ≤ i → i < a + d → f i = []) → upFrom f a (d + k) = upFrom f (a + d) k
  | 0, a, k, _ => by rw [Nat.zero_add, Nat.add_zero]
  | d + 1, a, k, h => by
    rw [show d + 1 + k = (d + k) + 1 by omega, upFrom_succ, h a (by omega) (by omega), List.nil_append, upFrom_jump d (a + 1) k (fun i h1 h2 => h i (by omega) (by omega)), show a + 1 + d = a + (d + 1) by omega]
theorem pre_len {a b : List Bs} (h : ∀ (k : Nat) (x : Bs), a[k]? = some x → b[k]? = some x) : a.length ≤ b.length := by
  cases hl : a.length with
  | zero => omega
  | succ n =>
    have := h n _ (List.getElem?_eq_getElem (by omega))
    have := (List.getElem?_eq_some_iff.1 this).1
    omega
/-- While Set goes through a root's eights. -/
structure Lp (mids : List Pt) (s : Sh) (hc now : List Pt) (g0 : Nat) : Prop where
  len : hc.length = 64
  nok : NOK now
  mok : NOK mids
  nd : ∀ i q, now[i]? = some q → IsN s.blocks 1 i q (grp hc i)
  old : ∀ i q, g0 ≤ i → mids[i]? = some q → IsN s.blocks 1 i q (grp hc i) ∧ now[i]? = some q
def mkF (hN hc now : List Pt) (i : Nat) : List Pt := if grp hN i = grp hc i then [] else one (now.getD i zeroP)
def gnF (hN hc mids : List Pt) (i : Nat) : List Pt := if grp hN i = grp hc i then [] else lostF (grp hc i) (grp hN i) 0 (grp hc i) ++ one (mids.getD i zeroP)
structure LpR (mids : List Pt) (s : Sh) (hc now : List Pt) (g0 : Nat) (hN : List Pt) (r : Gw) : Prop where
  e : r.e = 0 ∨ r.e = 21 ∨ r.e = 30
  pre : ∀ (k : Nat) (b : Bs), s.blocks[k]? = some b → r.s.blocks[k]? = some b
  len : r.s.blocks.length ≤ s.blocks.length + (8 - g0)
  bd : r.s.bad = s.bad
  ok : r.e = 0 → NOK r.now ∧ (∀ i q, r.now[i]? = some q → IsN r.s.blocks 1 i q (grp hN i)) ∧ ∀ i, i < g0 → r.now[i]? = now[i]?
  full : s.bad = [] → s.room = -1 → r.e = 0 ∧ r.s.room = -1 ∧ r.s.made = s.made ++ upFrom (mkF hN hc r.now) g0 (8 - g0) ∧ r.s.gone = s.gone ++ upFrom (gnF hN hc mids) g0 (8 - g0) ∧
    (∀ i, grp hN i = grp hc i → r.now[i]? = now[i]?) ∧ (∀ i p, g0 ≤ i → grp hN i ≠ grp hc i → r.now[i]? = some p → p = zeroP ∨ s.blocks.length < p.birth)
theorem loop2 {mids : List Pt} : ∀ (fuel : Nat) (s : Sh) (hc now : List Pt) (g0 : Nat) (l : List Lf), l.length ≤ fuel → Lp mids s hc now g0 → Asc l → (∀ x ∈ l, g0 ≤ x.1 / 8) → s.blocks.length + (8 - g0) < 30000 → g0 ≤ 8 →
    LpR mids s hc now g0 (updH hc l) (goW (withP 9 1) (8 ^ 1) mids fuel s now l)
  | fuel, s, hc, now, g0, [], _, hp, _, _, _, _ => by
    rw [goW_nil]
    have h1 : ∀ i, mkF (updH hc []) hc now i = [] := fun i => by unfold mkF; exact if_pos rfl
    have h2 : ∀ i, gnF (updH hc []) hc mids i = [] := fun i => by unfold gnF; exact if_pos rfl
    refine ⟨.inl rfl, fun _ _ h => h, by show s.blocks.length ≤ _; omega, rfl, fun _ => ⟨hp.nok, hp.nd, fun _ _ => rfl⟩, fun _ hr => ⟨rfl, hr, ?_, ?_, fun _ _ => rfl, fun i p _ h => absurd rfl h⟩⟩
    · rw [upFrom_nil _ _ (fun i _ _ => h1 i), List.append_nil]
    · rw [upFrom_nil _ _ (fun i _ _ => h2 i), List.append_nil]
  | 0, s, hc, now, g0, x :: xs, hf, _, _, _, _, _ => by simp at hf
  | fuel + 1, s, hc, now, g0, x :: xs, hf, hp, ha, hge, hlen, hg8 => by
    obtain ⟨l, hl⟩ : ∃ l, x :: xs = l := ⟨_, rfl⟩
    have hne : l ≠ [] := by rw [← hl]; simp
    have hx : l.getD 0 dl = x := by rw [← hl]; rfl
    have hxm : x ∈ l := by rw [← hl]; simp
    rw [hl] at hf ha hge ⊢
    obtain ⟨hd1, hd2, hd3⟩ := head_part hne ha
    rw [hx] at hd2 hd3
    have hx64 := ha.lt x hxm
    obtain ⟨g, hg⟩ : ∃ g, x.1 / 8 = g := ⟨_, rfl⟩
    have hgx := hge x hxm
    rw [hg] at hd2 hd3 hgx
    have hglt : g < 8 := by omega
    have hgi : (l.getD 0 dl).1 / 8 ^ 1 % 8 = g := by rw [hx]; show x.1 / 8 % 8 = g; omega
    have hpw : (8 ^ 1 : Nat) = 8 := rfl
    obtain ⟨q0, hq0⟩ := hp.mok.get hglt
    have hgD : mids.getD g zeroP = q0 := by rw [List.getD_eq_getElem?_getD, hq0]; rfl
    obtain ⟨hn0, hnow0⟩ := hp.old g q0 hgx hq0
    obtain ⟨pt, hpt⟩ : ∃ pt, l.take (headN 8 l) = pt := ⟨_, rfl⟩
    obtain ⟨rs, hrs⟩ : ∃ rs, l.drop (headN 8 l) = rs := ⟨_, rfl⟩
    have hpne : pt ≠ [] := by
      rw [← hpt]
      intro e
      have h3 : (l.take (headN 8 l)).length = 0 := by rw [e]; rfl
      rw [List.length_take] at h3
      have h0 : 0 < l.length := by rw [← hl]; simp
      omega
    have hap : Asc pt := by rw [← hpt]; exact ha.take _
    have har : Asc rs := by rw [← hrs]; exact ha.drop _
    rw [hpt] at hd2
    rw [hrs] at hd3
    have W := with1 hn0 hpne hap hd2 (by omega)
    obtain ⟨hu1, hu2⟩ := grp_upd pt hc hp.len hd2
    obtain ⟨rw_, hrw⟩ : ∃ r, withP 9 1 s q0 pt = r := ⟨_, rfl⟩
    rw [hrw] at W
    rw [← hu1] at W
    have hfe : withP 9 1 s (mids.getD ((l.getD 0 dl).1 / 8 ^ 1 % 8) zeroP) (l.take (headN (8 ^ 1) l)) = rw_ := by rw [hgi, hgD, hpw, hpt, hrw]
    have hNe : updH hc l = updH (updH hc pt) rs := by rw [← updH_append, ← hpt, ← hrs, List.take_append_drop]
    by_cases he : rw_.e = 0
    · rw [goW_ok hne (by rw [hfe]; exact he), hfe, hgi, hpw, hrs]
      have hml := pre_len W.pre
      have hgN : ∀ i, i < g + 1 → grp (updH hc l) i = grp (updH hc pt) i := fun i hi => by rw [hNe]; exact grp_off rs _ (by rw [updH_len]; exact hp.len) hd3 i hi
      have hLp : Lp mids rw_.s (updH hc pt) (now.set g rw_.p) (g + 1) := by
        refine ⟨by rw [updH_len]; exact hp.len, hp.nok.set g ((W.ok he).ok (by omega)), hp.mok, fun i q hi => ?_, fun i q hgi2 hi => ?_⟩
        · by_cases e : g = i
          · subst e
            rw [List.getElem?_set_self (by rw [hp.nok.len]; exact hglt)] at hi
            rw [← Option.some.inj hi]
            exact W.ok he
          · rw [List.getElem?_set_ne e] at hi
            rw [hu2 i (fun h => e h.symm)]
            exact (hp.nd i q hi).mono W.pre
        · obtain ⟨h1, h2⟩ := hp.old i q (by omega) hi
          rw [hu2 i (by omega), List.getElem?_set_ne (by omega)]
          exact ⟨h1.mono W.pre, h2⟩
      have R := loop2 fuel rw_.s (updH hc pt) (now.set g rw_.p) (g + 1) rs (by rw [← hrs, List.length_drop]; omega) hLp har hd3 (by have := W.len; omega) (by omega)
      rw [← hNe] at R
      rw [hpw] at R
      obtain ⟨r, hr⟩ : ∃ r, goW (withP 9 1) 8 mids fuel rw_.s (now.set g rw_.p) rs = r := ⟨_, rfl⟩
      rw [hr] at R ⊢
      have hset : (now.set g rw_.p)[g]? = some rw_.p := List.getElem?_set_self (by rw [hp.nok.len]; exact hglt)
      refine ⟨R.e, fun k b h => R.pre k b (W.pre k b h), by have := R.len; have := W.len; omega, R.bd.trans W.bd, fun h0 => ⟨(R.ok h0).1, (R.ok h0).2.1, fun i hi => ?_⟩, fun hb hroom => ?_⟩
      · rw [(R.ok h0).2.2 i (by omega), List.getElem?_set_ne (by omega)]
      · obtain ⟨-, w2, w3, w4⟩ := W.full hb hroom
        obtain ⟨f1, f2, f3, f4, f5, f6⟩ := R.full (W.bd.trans hb) w2
        have hrg : r.now[g]? = some rw_.p := by rw [(R.ok f1).2.2 g (by omega), hset]
        have hrgD : r.now.getD g zeroP = rw_.p := by rw [List.getD_eq_getElem?_getD, hrg]; rfl
        have hsame : ∀ i, i < g → grp (updH hc l) i = grp hc i := fun i hi => by rw [hgN i (by omega), hu2 i (by omega)]
        have e1 : upFrom (mkF (updH hc l) hc r.now) g0 (8 - g0) = mkF (updH hc l) hc r.now g ++ upFrom (mkF (updH hc l) (updH hc pt) r.now) (g + 1) (8 - (g + 1)) := by
          rw [show 8 - g0 = (g - g0) + ((8 - (g + 1)) + 1) by omega, upFrom_jump _ _ _ (fun i h1 h2 => by unfold mkF; rw [if_pos (hsame i (by omega))]), show g0 + (g - g0) = g by omega, upFrom_succ]
          congr 1
          exact upFrom_congr _ _ (fun i h1 h2 => by unfold mkF; rw [hu2 i (by omega)])
        have e2 : upFrom (gnF (updH hc l) hc mids) g0 (8 - g0) = gnF (updH hc l) hc mids g ++ upFrom (gnF (updH hc l) (updH hc pt) mids) (g + 1) (8 - (g + 1)) := by
          rw [show 8 - g0 = (g - g0) + ((8 - (g + 1)) + 1) by omega, upFrom_jump _ _ _ (fun i h1 h2 => by unfold gnF; rw [if_pos (hsame i (by omega))]), show g0 + (g - g0) = g by omega, upFrom_succ]
          congr 1
          exact upFrom_congr _ _ (fun i h1 h2 => by unfold gnF; rw [hu2 i (by omega)])
        have hmk : rw_.s.made = s.made ++ mkF (updH hc l) hc r.now g ∧ rw_.s.gone = s.gone ++ gnF (updH hc l) hc mids g := by
          unfold mkF gnF
          rw [hgN g (by omega), hrgD, hgD]
          by_cases hc2 : grp (updH hc pt) g = grp hc g
          · rw [if_pos hc2, if_pos hc2, List.append_nil, List.append_nil]
            exact (w3 hc2).2
          · rw [if_neg hc2, if_neg hc2]
            exact ⟨(w4 hc2).2.1, by rw [(w4 hc2).1]; rfl⟩
        refine ⟨f1, f2, by rw [f3, hmk.1, e1, List.append_assoc], by rw [f4, hmk.2, e2, List.append_assoc], fun i hi => ?_, fun i p hi hch hip => ?_⟩
        · by_cases e : i = g
          · subst e
            rw [hrg, hnow0]
            rw [hgN i (by omega)] at hi
            rw [(w3 hi).1]
          · rw [f5 i (by rw [hi, hu2 i e]), List.getElem?_set_ne (by omega)]
        · by_cases e : i = g
          · subst e
            rw [hrg] at hip
            rw [hgN i (by omega)] at hch
            rw [← Option.some.inj hip]
            exact (w4 hch).2.2
          · by_cases hlt : i < g
            · exact absurd (hsame i hlt) hch
            · rcases f6 i p (by omega) (by rw [hu2 i e]; exact hch) hip with h | h
              · exact .inl h
              · exact .inr (by omega)
    · obtain ⟨g1, g2⟩ := goW_err (f := withP 9 1) (wide := 8 ^ 1) (was := mids) (fuel := fuel) (s := s) (now := now) hne (by rw [hfe]; exact he)
      rw [hfe] at g1 g2
      refine ⟨by rw [g1]; exact W.e, fun k b h => by rw [g2]; exact W.pre k b h, by rw [g2]; have := W.len; omega, by rw [g2]; exact W.bd, fun h0 => absurd (g1.symm.trans h0) he, fun hb hroom => absurd (W.full hb hroom).1 he⟩
/-- What Set does to a tree. -/
structure StT (s : Sh) (root : Pt) (h mids : List Pt) (hN : List Pt) (r : Ww) : Prop where
  e : r.e = 0 ∨ r.e = 21 ∨ r.e = 30
  pre : ∀ (k : Nat) (b : Bs), s.blocks[k]? = some b → r.s.blocks[k]? = some b
  len : r.s.blocks.length ≤ s.blocks.length + 9
  bd : r.s.bad = s.bad
  full : s.bad = [] → s.room = -1 → r.e = 0 ∧ r.s.room = -1 ∧ ∃ mids', IsT r.s.blocks r.p hN mids' ∧
    r.s.made = s.made ++ (upFrom (mkF hN h mids') 0 8 ++ (if mids' = mids then [] else one r.p)) ∧ r.s.gone = s.gone ++ (upFrom (gnF hN h mids) 0 8 ++ (if mids' = mids then [] else one root)) ∧
    (mids' = mids → r.p = root) ∧ (mids' ≠ mids → r.p = zeroP ∨ s.blocks.length < r.p.birth) ∧
    (∀ i, grp hN i = grp h i → mids'[i]? = mids[i]?) ∧ (∀ i p, grp hN i ≠ grp h i → mids'[i]? = some p → p = zeroP ∨ s.blocks.length < p.birth)
theorem updH_ok {h : List Pt} {l : List Lf} (hh : ∀ p ∈ h, p.OK) (ha : Asc l) : ∀ p ∈ updH h l, p.OK := fun p hp => by
  rcases mem_updH l h p hp with h1 | ⟨x, hx, e⟩
  · exact hh p h1
  · rw [e]; exact (ha.ok x hx).1
theorem setOk_asc {l : List Lf} (ha : Asc l) : setOk l = true := setOk_yes fun i hi => by
  obtain ⟨x, hx⟩ : ∃ x, l[i]? = some x := ⟨_, List.getElem?_eq_getElem hi⟩
  have hm := List.mem_of_getElem? hx
  unfold goodAt
  rw [hx]
  simp only
  have h1 := ha.lt x hm
  have h2 := (ha.ok x hm).2
  unfold fineP at h2
  rw [h2, decide_eq_true h1]
  by_cases h0 : i = 0
  · simp [h0]
  · obtain ⟨y, hy⟩ : ∃ y, l[i - 1]? = some y := ⟨_, List.getElem?_eq_getElem (by omega)⟩
    have hyx := List.pairwise_iff_getElem.1 ha.asc (i - 1) i (by omega) hi (by omega)
    rw [List.getElem?_eq_getElem hi] at hx
    rw [List.getElem?_eq_getElem (by omega)] at hy
    rw [List.getD_eq_getElem?_getD, List.getElem?_eq_getElem (by omega)]
    simp only [Option.some.inj hx, Option.some.inj hy, Option.getD_some] at hyx ⊢
    simp [hyx]
theorem set_tree {s : Sh} {root : Pt} {h mids : List Pt} {l : List Lf} (ht : IsT s.blocks root h mids) (ha : Asc l) (hlen : s.blocks.length + 9 < 30000) : StT s root h mids (updH h l) (setR s root 9 l) := by
  have hr := ht.ref0
  unfold setR
  rw [if_neg (by omega), setOk_asc ha]
  simp only [Bool.true_eq_false, if_false]
  by_cases hl : l = []
  · subst hl
    have hw : withP 9 2 s root [] = ⟨root, 0, s⟩ := by rw [withP_succ, if_pos rfl]
    rw [hw]
    have h1 : ∀ i, mkF (updH h []) h mids i = [] := fun i => by unfold mkF; exact if_pos rfl
    have h2 : ∀ i, gnF (updH h []) h mids i = [] := fun i => by unfold gnF; exact if_pos rfl
    refine ⟨.inl rfl, fun _ _ h => h, by show s.blocks.length ≤ _; omega, rfl, fun _ hroom => ⟨rfl, hroom, mids, ht, ?_, ?_, fun _ => rfl, fun h => absurd rfl h, fun _ _ => rfl, fun i p h => absurd rfl h⟩⟩
    · rw [upFrom_nil _ _ (fun i _ _ => h1 i), if_pos rfl]; simp
    · rw [upFrom_nil _ _ (fun i _ _ => h2 i), if_pos rfl]; simp
  · rw [withP_succ, if_neg hl]
    rcases rn_ok ht.2.2.1 with ⟨r1, r2⟩ | ⟨r1, r2⟩
    · rw [if_neg (by omega), r2, rnS_eq]
      have hLp : Lp mids { s with read0 := s.read0 ++ one root } h mids 0 := ⟨ht.1, ht.2.2.1.1, ht.2.2.1.1, ht.2.2.2, fun i q _ hq => ⟨ht.2.2.2 i q hq, hq⟩⟩
      have R := loop2 l.length { s with read0 := s.read0 ++ one root } h mids 0 l (Nat.le_refl _) hLp ha (fun x _ => by omega) (by show s.blocks.length + _ < _; omega) (by omega)
      obtain ⟨gw, hgw⟩ : ∃ g, goW (withP 9 1) (8 ^ 1) mids l.length { s with read0 := s.read0 ++ one root } mids l = g := ⟨_, rfl⟩
      rw [hgw] at R ⊢
      have hoff : (l.getD 0 dl).1 / 8 ^ (1 + 1) = 0 := by
        obtain ⟨x, hx⟩ : ∃ x, l[0]? = some x := ⟨_, List.getElem?_eq_getElem (by cases l with | nil => exact absurd rfl hl | cons a b => simp)⟩
        rw [List.getD_eq_getElem?_getD, hx]
        have := ha.lt x (List.mem_of_getElem? hx)
        show x.1 / 64 = 0
        omega
      by_cases he : gw.e = 0
      · obtain ⟨o1, o2, o3⟩ := R.ok he
        have hgeq : gw = ⟨gw.now, 0, gw.s⟩ := by cases gw; simp only at he; rw [he]
        have hfine : ∀ p ∈ gw.now, fineP p = true := fun p hp => by
          obtain ⟨i, hi⟩ := List.getElem?_of_mem hp
          exact (o2 i p hi).fine (by omega)
        have W := end_node (s0 := gw.s) (.inr rfl) (ht.2.2.1.mono (fun k b h => R.pre k b h)) o1 hfine hoff (by have := R.len; have : ({ s with read0 := s.read0 ++ one root } : Sh).blocks.length = s.blocks.length := rfl; omega) ⟨rfl, rfl, rfl, rfl, rfl⟩
        rw [← hgeq] at W
        obtain ⟨r, hrr⟩ : ∃ r, endW 9 (1 + 1) root mids ((l.getD 0 dl).1 / 8 ^ (1 + 1)) gw = r := ⟨_, rfl⟩
        rw [hrr] at W ⊢
        have hbl : s.blocks.length ≤ gw.s.blocks.length := pre_len (a := s.blocks) (fun k b h => R.pre k b h)
        refine ⟨W.e, fun k b h => W.pre k b (R.pre k b h), by have := W.len; have h8 : gw.s.blocks.length ≤ s.blocks.length + 8 := R.len; omega, W.bd.trans R.bd, fun hb hroom => ?_⟩
        obtain ⟨f1, f2, f3, f4, f5, f6⟩ := R.full hb hroom
        obtain ⟨w1, w2, w3, w4⟩ := W.full (R.bd.trans hb) f2
        refine ⟨w1, w2, gw.now, ⟨by rw [updH_len]; exact ht.1, updH_ok ht.2.1 ha, W.ok w1, fun i q hq => (o2 i q hq).mono W.pre⟩, ?_, ?_, fun hm => (w3 hm).1, fun hm => ?_, f5, fun i p hch hp => f6 i p (by omega) hch hp⟩
        · by_cases hm : gw.now = mids
          · rw [(w3 hm).2.1, f3, if_pos hm, List.append_nil]
          · rw [(w4 hm).2.1, f3, if_neg hm, List.append_assoc]
        · by_cases hm : gw.now = mids
          · rw [(w3 hm).2.2, f4, if_pos hm, List.append_nil]
          · rw [(w4 hm).1, f4, if_neg hm, List.append_assoc]
            rfl
        · rcases (w4 hm).2.2 with h | h
          · exact .inl h
          · exact .inr (by omega)
      · have hend : endW 9 (1 + 1) root mids ((l.getD 0 dl).1 / 8 ^ (1 + 1)) gw = ⟨zeroP, gw.e, gw.s⟩ := by unfold endW; rw [if_pos he]
        rw [hend]
        refine ⟨R.e, fun k b h => R.pre k b h, by have h8 : gw.s.blocks.length ≤ s.blocks.length + 8 := R.len; show gw.s.blocks.length ≤ _; omega, R.bd, fun hb hroom => absurd (R.full hb hroom).1 he⟩
    · rw [if_pos (by omega), r1, rnS_eq]
      exact ⟨.inr (.inl rfl), fun k b h => h, Nat.le_add_right _ _, rfl, fun hb => absurd hb r2⟩
end Go.Proofs.YtfcjeceoedfldaaDoor
/- Trees, plain: what is new, what is old. -/
namespace Go.Proofs.YtfcjeceoedfldaaDoor
open Go.RowKit

/-- Leaves that know their places. -/
def LInv (h : List Pt) : Prop := ∀ (off : Nat) (p : Pt), h[off]? = some p → p = zeroP ∨ (p.kind = 1 ∧ p.off = off)
theorem isIn_mem {l : List Pt} {p : Pt} : isIn l p = true ↔ p ∈ l := by
  unfold isIn
  rw [List.any_eq_true]
  constructor
  · rintro ⟨q, hq, e⟩; rw [eqP_iff.1 e]; exact hq
  · intro h; exact ⟨p, h, eqP_same p⟩
end Go.Proofs.YtfcjeceoedfldaaDoor
/- TreeWrong, walked. -/
namespace Go.Proofs.YtfcjeceoedfldaaDoor
open Go.RowKit

attribute [local go_sem] Oper.semAt_some

theorem Fr.allE {w X : World} {D : Nat} {s : Sh} {bs : Bxs} (h : Fr w D s bs X) (p : Pt) (hp : p.OK) {m : Nat} (hk : Lim m s) (hm : m + 73 < 1000000) :
    Calls Tryd.prog 11 #[shI D, .agg (pcells p).toArray] X fun e Y => ∃ lv nv, e = .returned (.tuple #[lv, nv, .int .i64 (allE s p : Int)]) ∧ Fr w D (allS s p) bs Y ∧ Lim (m + 73) (allS s p) := by
  obtain ⟨L1, v1, h1, h2, h3, h4, h5⟩ := h.call
  refine (trAll_any p hp h1 h2 hk hm).mono ?_
  rintro e Y ⟨lv, nv, e1, ⟨⟨L2, v2, k1, k2, _⟩, _⟩, e3⟩
  exact ⟨lv, nv, e1, h5 _ Y ⟨L2, v2, k1, k2⟩, e3⟩
/-- The blocks are one that lies in old memory. -/
theorem Fr.blocks {w X Y : World} {D : Nat} {s : Sh} {bs : Bxs} (h : Fr w D s bs X) (b : Bs) (sp : Option Addr) (cap : Nat) (hc : b.length ≤ cap) (hz : sp = none → cap = 0) (hS : SrcA w sp b) (hlt : ∀ a, sp = some a → a.block < w.heap.size) (hbox : ∀ y ∈ bs, ¬ ∃ a, sp = some a ∧ y.1 = a.block) {g : Nat} (hb : Below X.heap.size X Y) (hg : X.heap.size ≤ g) (hn : Blk Y g [.slice sp b.length cap] 41) :
    Fr w D { s with blocks := [b] } bs (Y.setCell ⟨D, 0, none⟩ (.slice (some ⟨g, 0, none⟩) 1 1)) := by
  obtain ⟨⟨L1, v1, h1, h2, h3, h4⟩, k, hl⟩ := h
  have hD : D ≠ g := by have := h1.blk.lt; omega
  have hgY := hn.lt
  have hlD : w.heap.size ≤ D := by
    by_cases e : w.heap.size ≤ D
    · exact e
    · have := h4 D (by omega); rw [h1.ld] at this; omega
  -- the labels behind it
  classical
  let L2 : Nat → Nat := fun x => if x = g then 2 else if (∃ a, sp = some a ∧ x = a.block) then 10 else L1 x
  have hsp1 : ∀ x, (∃ a, sp = some a ∧ x = a.block) → x < w.heap.size := fun x ⟨a, ha, e⟩ => by rw [e]; exact hlt a ha
  have hold : ∀ x, x < X.heap.size → (L1 x = 1 ∨ L1 x = 3 ∨ L1 x = 4 ∨ L1 x = 5 ∨ L1 x = 10 ∨ L1 x = 2) → L2 x = L1 x := fun x hx hx' => by
    show (if x = g then 2 else if (∃ a, sp = some a ∧ x = a.block) then 10 else L1 x) = L1 x
    rw [if_neg (by omega)]
    by_cases e : ∃ a, sp = some a ∧ x = a.block
    · rw [if_pos e]
      have := h4 x (hsp1 x e)
      omega
    · rw [if_neg e]
  have hc1 : Chg (fun x => x = D) X (Y.setCell ⟨D, 0, none⟩ (.slice (some ⟨g, 0, none⟩) 1 1)) := (Chg.of_below (F := fun x => x = D) hb).setCell (g := D) (.inl rfl) 0 _
  have hsz : (Y.setCell ⟨D, 0, none⟩ (.slice (some ⟨g, 0, none⟩) 1 1)).heap.size = Y.heap.size := by simp [World.setCell]
  have hDn : ∀ {j x : Nat}, j ≠ 1 → L1 x = j → ¬ x = D := fun hj hx e => by rw [e, h1.ld] at hx; exact hj hx.symm
  have ow : ∀ {x : Value} {l : List Pt} {j : Nat}, (j = 3 ∨ j = 4 ∨ j = 5) → (OwnM X 0 x l ∧ ∀ g, x.ownBlock = some g → L1 g = j) → (OwnM (Y.setCell ⟨D, 0, none⟩ (.slice (some ⟨g, 0, none⟩) 1 1)) 0 x l ∧ ∀ g, x.ownBlock = some g → L2 g = j) := fun hj ⟨ha, hb'⟩ =>
    ⟨owns_chg ha hc1 (fun y hy => hDn (by omega) (hb' y hy)), fun y hy => by rw [hold y (owns_lt ha hy) (by rw [hb' y hy]; omega)]; exact hb' y hy⟩
  have hbS : Blk (Y.setCell ⟨D, 0, none⟩ (.slice (some ⟨g, 0, none⟩) 1 1)) g [.slice sp b.length cap] 41 := hn.other (a := ⟨D, 0, none⟩) (fun e => hD e.symm) _
  refine ⟨⟨L2, { v1 with bl := .slice (some ⟨g, 0, none⟩) 1 1 }, ⟨(h1.blk.below hb h1.blk.lt).set 0 _, by rw [hold D h1.blk.lt (.inl h1.ld)]; exact h1.ld, ⟨[.slice sp b.length cap], ?_, fun x hx => ?_, rfl, fun i u b' hu hb' => ?_, fun u hu => by simp at hu; subst hu; rfl⟩, ?_, ow (by omega) h1.md, ow (by omega) h1.gn, ow (by omega) h1.rd, fun x hx => ?_, h1.okm, h1.okg, h1.okr, ?_⟩, fun x => ?_, fun y hy => ?_, fun x hx => ?_⟩, fun y hy => ?_, ?_⟩
  · exact hbS.owns (base := 0) (n := 1) (Nat.zero_le _) (by simp) (by unfold maxLen; simp)
  · injection hx with hx
    show (if x = g then 2 else _) = 2
    rw [if_pos hx.symm]
  · cases i with
    | zero =>
      simp at hu hb'
      subst hu hb'
      refine ⟨sp, cap, rfl, hc, hz, (hS.grown hl).chgF hc1 (fun a ha e => by have := hlt a ha; have e : a.block = D := e; omega), fun a ha => ?_⟩
      show (if a.block = g then 2 else if (∃ a', sp = some a' ∧ a.block = a'.block) then 10 else L1 a.block) = 10
      rw [if_neg (by have := hlt a ha; have := hl.size; omega), if_pos ⟨a, ha, rfl⟩]
    | succ i => simp at hu
  · obtain ⟨sp', cap', e, j1, j2, j3⟩ := h1.bad
    refine ⟨sp', cap', e, j1, j2, fun h0 => ?_⟩
    obtain ⟨g', o, e1, hg', hl', hcell⟩ := j3 h0
    refine ⟨g', o, e1, Nat.lt_of_lt_of_le hg' hc1.size, (hold g' hg' (by omega)).trans hl', fun i x hx => ?_⟩
    rw [World.cell?_of_block (w := X) (a := ⟨g', o + i, none⟩) (hc1.block g' hg' (hDn (by omega) hl'))]
    exact hcell i x hx
  · rw [hsz]
    have hx : (if x = g then 2 else if (∃ a, sp = some a ∧ x = a.block) then 10 else L1 x) ≠ 0 := hx
    by_cases e1 : x = g
    · omega
    · rw [if_neg e1] at hx
      by_cases e2 : ∃ a, sp = some a ∧ x = a.block
      · have := hsp1 x e2; have := hl.size; have := hb.size; omega
      · rw [if_neg e2] at hx
        have := h1.lt x hx; have := hb.size; omega
  · exact ⟨h1.tab.1.of_heap (hc1.block _ h1.tab.1.lt (hDn (by omega) h1.tab.2)), (hold _ h1.tab.1.lt (by rw [h1.tab.2]; omega)).trans h1.tab.2⟩
  · show (if x = g then 2 else if (∃ a, sp = some a ∧ x = a.block) then 10 else L1 x) ≤ 5 ∨ (if x = g then 2 else if (∃ a, sp = some a ∧ x = a.block) then 10 else L1 x) = 10
    by_cases e1 : x = g
    · rw [if_pos e1]; omega
    · rw [if_neg e1]
      by_cases e2 : ∃ a, sp = some a ∧ x = a.block
      · rw [if_pos e2]; omega
      · rw [if_neg e2]; exact h2 x
  · show (if y.1 = g then 2 else if (∃ a, sp = some a ∧ y.1 = a.block) then 10 else L1 y.1) = 0
    have hy1 := (k y hy).lt
    rw [if_neg (by omega), if_neg (fun e => hbox y hy e)]
    exact h3 y hy
  · show (if x = g then 2 else if (∃ a, sp = some a ∧ x = a.block) then 10 else L1 x) = 0 ∨ (if x = g then 2 else if (∃ a, sp = some a ∧ x = a.block) then 10 else L1 x) = 10
    have := hl.size
    rw [if_neg (by omega)]
    by_cases e2 : ∃ a, sp = some a ∧ x = a.block
    · right; rw [if_pos e2]
    · rw [if_neg e2]; exact h4 x hx
  · exact (k y hy).chg hc1 (fun e => by have := h3 y hy; have e : y.1 = D := e; rw [e, h1.ld] at this; omega)
  · exact (hl.trans (hb.mono hl.size)).trans ⟨rfl, rfl, rfl, by simp [World.setCell], fun x hx => Below.heap_setCell _ _ _ _ (by show x ≠ D; omega)⟩
end Go.Proofs.YtfcjeceoedfldaaDoor
/- TreeWrong, walked. -/
namespace Go.Proofs.YtfcjeceoedfldaaDoor
open Go.RowKit

attribute [local go_sem] Oper.semAt_some

theorem goB_okl {f : Sh → List Pt → List Lf → Pt → Nat → Bw} (hf : ∀ s ns ls q a, q.OK → (∀ x ∈ ls, Pt.OK x.2) → ∀ x ∈ (f s ns ls q a).ls, Pt.OK x.2) (wide first fr tt : Nat) : ∀ (qs : List Pt) (i : Nat) (s : Sh) (ns : List Pt) (ls : List Lf), (∀ q ∈ qs, q.OK) → (∀ x ∈ ls, Pt.OK x.2) → ∀ x ∈ (goB f wide first fr tt qs i s ns ls).ls, Pt.OK x.2
  | [], _, _, _, _, _, hl => hl
  | q :: qs, i, s, ns, ls, hq, hl => by
    have hq1 := hq q (List.mem_cons_self ..)
    have hq2 : ∀ q ∈ qs, q.OK := fun y hy => hq y (List.mem_cons_of_mem _ hy)
    by_cases hc : first + i * wide + wide ≤ fr ∨ tt ≤ first + i * wide
    · rw [goB_skip hc]; exact goB_okl hf wide first fr tt qs _ _ _ _ hq2 hl
    · by_cases he : (f s ns ls q (first + i * wide)).e = 0
      · rw [goB_ok hc he]
        exact goB_okl hf wide first fr tt qs _ _ _ _ hq2 (hf _ _ _ _ _ hq1 hl)
      · rw [goB_err hc he]; exact hf _ _ _ _ _ hq1 hl
theorem belowP_okl (fr tt : Nat) : ∀ (n : Nat) (s : Sh) (ns : List Pt) (ls : List Lf) (p : Pt) (first : Nat), p.OK → (∀ x ∈ ls, Pt.OK x.2) → ∀ x ∈ (belowP fr tt n s ns ls p first).ls, Pt.OK x.2
  | 0, s, ns, ls, p, first, hp, hl => by
    unfold belowP
    split
    · exact hl
    · intro x hx
      rcases List.mem_append.1 hx with h | h
      · exact hl x h
      · simp at h; subst h; exact hp
  | n + 1, s, ns, ls, p, first, hp, hl => by
    rw [belowP_succ]
    split
    · exact hl
    · split
      · exact hl
      · exact goB_okl (fun s ns ls q a h1 h2 => belowP_okl fr tt n s ns ls q a h1 h2) (8 ^ n) first fr tt (rnN s p) 0 (rnS s p) (ns ++ [p]) ls (rnN_ok s p).ok hl
theorem getP_ok (s : Sh) {p : Pt} (off : Nat) (hp : p.OK) : (getP s p off).OK := by
  unfold getP
  split
  · exact zeroP_ok
  · unfold lastP
    cases hl : (getR s p off).ls.getLast? with
    | none => exact zeroP_ok
    | some y => exact belowP_okl off (off + 1) 2 s [] [] p 0 hp (fun x hx => by simp at hx) y (List.mem_of_getLast? hl)
theorem tl_val {ops : Array Oper} {rest : List Oper} {o : Oper} {a : Act} {Q : Exit → Act → World → Prop} {S : World → Prop} {w : World} (v : Value) (hw : Region.wanted o (yielded ops a.tmps) = true) (hS : S w) (hrun : ∀ w, S w → (execOp a.eval o).run Tryd.prog w = .ok (.value v) w)
    (hK : wpList Tryd.prog ops Q rest (a.put o.dst v) w) : wpList Tryd.prog ops Q (o :: rest) a w := wpL_valG hw (hrun w hS) hK
theorem tl_skip {ops : Array Oper} {rest : List Oper} {o : Oper} {a : Act} {Q : Exit → Act → World → Prop} {w : World} (hw : Region.wanted o (yielded ops a.tmps) = false)
    (hK : wpList Tryd.prog ops Q rest (a.put o.dst undef) w) : wpList Tryd.prog ops Q (o :: rest) a w := by
  unfold wpList
  rw [if_neg (by simp [hw])]
  exact hK
theorem tl_call {ops : Array Oper} {rest : List Oper} {o : Oper} {a : Act} {Q : Exit → Act → World → Prop} {w : World} (hw : Region.wanted o (yielded ops a.tmps) = true) (f : FuncId) (args : Array Value) (hrun : (execOp a.eval o).run Tryd.prog w = .ok (.enter f args) w)
    (C : Value → World → Prop) (hc : Calls Tryd.prog f args w fun e w' => ∃ v, e = .returned v ∧ C v w') (hK : ∀ v w', C v w' → wpList Tryd.prog ops Q rest (a.put o.dst v) w') : wpList Tryd.prog ops Q (o :: rest) a w := by
  unfold wpList
  rw [if_pos hw]
  refine .inl ?_
  unfold Oper.wp
  rw [hrun]
  exact hc.mono fun e w' ⟨v, e1, h1⟩ => by subst e1; exact hK v w' h1
end Go.Proofs.YtfcjeceoedfldaaDoor
/- The law's has. -/
namespace Go.Proofs.YtfcjeceoedfldaaDoor
open Go.RowKit

attribute [local go_sem] Oper.semAt_some

theorem SrcM.at {X : World} {g n cap : Nat} {l : List Pt} (h : SrcM X (.slice (some ⟨g, 0, none⟩) n cap) l) {k : Nat} {q : Pt} (hk : l[k]? = some q) : X.rangeAt g (k * 41) (pcells q) := by
  obtain ⟨sp', cap', e, _, _, _, h3⟩ := h
  obtain ⟨g', e2, _, h4⟩ := h3 (by have := (List.getElem?_eq_some_iff.1 hk).1; omega)
  injection e with e3 _ _
  rw [e2] at e3
  injection e3 with e4
  injection e4 with e5 _ _
  rw [e5]
  exact h4 k q hk
theorem SrcM.form {X : World} {v : Value} {l : List Pt} (h : SrcM X v l) : ∃ g cap, (0 < l.length → v = .slice (some ⟨g, 0, none⟩) l.length cap) ∧ l.length ≤ cap ∧ ∃ sp, v = .slice sp l.length cap := by
  obtain ⟨sp, cap, e, h1, h2, h3, h4⟩ := h
  by_cases h0 : 0 < l.length
  · obtain ⟨g, e2, _, _⟩ := h4 h0
    exact ⟨g, cap, fun _ => by rw [e, e2], h1, sp, e⟩
  · exact ⟨0, cap, fun h => absurd h h0, h1, sp, e⟩
theorem eqP_comm (p q : Pt) : eqP p q = eqP q p := by
  rw [Bool.eq_iff_iff, eqP_iff, eqP_iff]
  exact eq_comm
theorem ex_ldR {ρ : Operand → Value} {o : Oper} {x : Operand} {w : World} {g off : Nat} {p : Pt} (hp : p.OK) (hr : w.rangeAt g off (pcells p)) (ho : o.op = .load 37 x) (hx : ρ x = .pointer (some ⟨g, off, none⟩)) : (execOp ρ o).run Tryd.prog w = .ok (.value (.agg (pcells p).toArray)) w :=
  ex_ld (ty := 37) (cs := pcells p) ho hx hr Tryd.underlying37 rfl (by rw [sizeP, pcells_length hp])
set_option maxRecDepth 100000 in
set_option maxHeartbeats 4000000 in
theorem has_any (l : List Pt) (v : Value) (p : Pt) (hp : p.OK) (hok : ∀ q ∈ l, q.OK) (hl : l.length < 1000000) (w : World) (h : SrcM w v l) : Calls Tryd.prog 13 #[v, .agg (pcells p).toArray] w fun e w' => e = .returned (.bool (isIn l p)) ∧ Below w.heap.size w w' := by
  have HP := Lib.hid hp; have HOK := Lib.hid hok; have HL := Lib.hid hl
  have hb0 : Below w.heap.size w (w.alloc (.cells (pcells p).toArray 37)) := (Below.refl _ _).alloc (Nat.le_refl _) _
  have HS : Hid (IdxS w p v l (w.alloc (.cells (pcells p).toArray 37))) := Lib.hid ⟨Blk.new _ _ _, h.grown hb0, hb0⟩
  obtain ⟨g, cap, hv, hc, sp, e⟩ := h.form
  subst e
  obtain ⟨N, hN⟩ : ∃ N, l.length = N := ⟨_, rfl⟩
  rw [hN] at HS hc hv ⊢
  have HN := Lib.hid hN; have HC := Lib.hid hc; have HV := Lib.hid hv; have HN2 : Hid (N < 1000000) := Lib.hid (by omega)
  generalize hPost : (fun e w' => e = Ending.returned (.bool (isIn l p)) ∧ Below w.heap.size w w') = Post
  have HPO : Hid (∀ b w', isIn l p = b → Below w.heap.size w w' → Post (.returned (.bool b)) w') := Lib.hid fun b w' e h => by rw [← hPost, ← e]; exact ⟨rfl, h⟩
  clear hp hok hl hb0 hc hN hv h hPost
  go_enter Tryd.func13, Tryd.ntmps13
  go_wp2_with fail
  obtain ⟨gp, hgp⟩ : ∃ g, w.heap.size = g := ⟨_, rfl⟩
  generalize (w.alloc (.cells (pcells p).toArray 37)) = W0 at HS ⊢
  have HGP := Lib.hid hgp
  rw [hgp]
  clear hgp
  go_loopw [5] (fun i wr => ∃ k : Nat, k ≤ N ∧ i = .int .i64 (k : Int) ∧ (l.take k).any (fun q => eqP p q) = false ∧ IdxS w p (.slice sp N cap) l wr) (fun i _ => N - (intOf i).toNat)
  case atStart => exact ⟨0, by omega, rfl, by simp, HS.out⟩
  case round =>
    clear HS
    obtain ⟨k, hk, rfl, hno, hs⟩ := hrel
    have HNO := Lib.hid hno; have HS := Lib.hid hs
    clear hno hs
    have wk1 := IntWalk.i64_in ((k : Int) + 1) (by have := HN2.out; omega)
    by_cases hlt : k < N
    · obtain ⟨q, hq⟩ : ∃ q, l[k]? = some q := ⟨_, List.getElem?_eq_getElem (by have := HN.out; omega)⟩
      have hv2 := HV.out (by omega)
      injection hv2 with hv3
      subst hv3
      have HQ : Hid q.OK := Lib.hid (HOK.out q (List.mem_of_getElem? hq))
      have HKN : Hid (k < N ∧ N ≤ cap) := Lib.hid ⟨hlt, HC.out⟩
      have HQK := Lib.hid hq
      clear hq
      go_upto_region 4 with fail
      have hs0 := HS.out.grown (Below.refl _ _).drew
      refine wp_region_sched (.take 0 (.take 1 (.take 2 (.take 3 (.take 4 (.take 5 (.nil))))))) (by kernel_rfl) (by kernel_rfl) (fun d _ _ _ _ h => by cases d <;> exact h) (IdxS w p (.slice (some ⟨g, 0, none⟩) N cap) l) (hs0) ?_
      refine wpG_take _ (.slice (some ⟨g, 0, none⟩) N cap) rfl (by rfl) (fun X hX => by first | rfl | go_simp) ?_
      (try simp only [Act.put, List.setIfInBounds_toArray, List.set_cons_zero, List.set_cons_succ])
      refine wpG_take _ (.int .i64 (k : Int)) rfl (by rfl) (fun X hX => by first | rfl | go_simp) ?_
      (try simp only [Act.put, List.setIfInBounds_toArray, List.set_cons_zero, List.set_cons_succ])
      refine wpG_take _ (.pointer (some ⟨g, k * 41, none⟩)) rfl (by rfl) (fun X hX => q_iaP rfl rfl rfl HKN.out) ?_
      (try simp only [Act.put, List.setIfInBounds_toArray, List.set_cons_zero, List.set_cons_succ])
      refine wpG_take _ (.agg (pcells q).toArray) rfl (by rfl) (fun X hX => ex_ldR HQ.out (hX.2.1.at HQK.out) rfl rfl) ?_
      (try simp only [Act.put, List.setIfInBounds_toArray, List.set_cons_zero, List.set_cons_succ])
      refine wpG_take _ (.agg (pcells p).toArray) rfl (by rfl) (fun X hX => ex_ldP HP.out (by have := hX.1; rw [HGP.out] at this; exact this) rfl rfl) ?_
      (try simp only [Act.put, List.setIfInBounds_toArray, List.set_cons_zero, List.set_cons_succ])
      refine wpG_take _ (.bool (eqP q p)) rfl (by rfl) (fun X hX => ex_eqP rfl rfl rfl HQ.out HP.out) ?_
      (try simp only [Act.put, List.setIfInBounds_toArray, List.set_cons_zero, List.set_cons_succ])
      refine wpG_nil ?_
      cases hcase : eqP p q with
      | false =>
        have HN3 : Hid ((l.take (k + 1)).any (fun q => eqP p q) = false) := Lib.hid (any_take HQK.out HNO.out hcase)
        rw [show eqP q p = false from (eqP_comm q p).trans hcase]
        go_wp2_with fail
        go_roundw
        case rel => exact ⟨k + 1, by omega, by go_num, HN3.out, HS.out.grown (Below.refl _ _).drew⟩
        case measure => simp [intOf]; omega
      | true =>
        have HN3 : Hid (isIn l p = true) := Lib.hid (any_at HQK.out hcase)
        have HE := Lib.hid (HPO.out true _ HN3.out (HS.out.grown (Below.refl _ _).drew).2.2)
        rw [show eqP q p = true from (eqP_comm q p).trans hcase]
        go_wp2_with fail
        first | exact HE.out | (go_ret; exact HE.out)
    · obtain rfl : k = N := by omega
      have HN3 : Hid (isIn l p = false) := Lib.hid (by have := HNO.out; rw [List.take_of_length_le (by have := HN.out; omega)] at this; exact this)
      have HE := Lib.hid (HPO.out false _ HN3.out HS.out.2.2)
      clear hlt hk
      go_wp2_with fail
      first | exact HE.out | (go_ret; exact HE.out)
end Go.Proofs.YtfcjeceoedfldaaDoor
