/- Trees, plain: Set on a whole tree. -/
import Derived.Test.YtfcjeceoedfldaaDoorM31
namespace Go.Proofs.YtfcjeceoedfldaaDoor
open Go.RowKit

def upFrom (f : Nat → List Pt) (a k : Nat) : List Pt := (List.range' a k).flatMap f
theorem upFrom_zero (f : Nat → List Pt) (a : Nat) : upFrom f a 0 = [] := rfl
theorem upFrom_succ (f : Nat → List Pt) (a k : Nat) : upFrom f a (k + 1) = f a ++ upFrom f (a + 1) k := by unfold upFrom; rw [List.range'_succ, List.flatMap_cons]
theorem upFrom_nil {f : Nat → List Pt} : ∀ (k a : Nat), (∀ i, a ≤ i → i < a + k → f i = []) → upFrom f a k = []
  | 0, _, _ => rfl
  | k + 1, a, h => by rw [upFrom_succ, h a (by omega) (by omega), upFrom_nil k (a + 1) (fun i h1 h2 => h i (by omega) (by omega))]; rfl
theorem upFrom_congr {f f' : Nat → List Pt} : ∀ (k a : Nat), (∀ i, a ≤ i → i < a + k → f i = f' i) → upFrom f a k = upFrom f' a k
  | 0, _, _ => rfl
  | k + 1, a, h => by rw [upFrom_succ, upFrom_succ, h a (by omega) (by omega), upFrom_congr k (a + 1) (fun i h1 h2 => h i (by omega) (by omega))]
theorem upFrom_jump {f : Nat → List Pt} : ∀ (d a k : Nat), (∀ i, a ≤ i → i < a + d → f i = []) → upFrom f a (d + k) = upFrom f (a + d) k
  | 0, a, k, _ => by rw [Nat.zero_add, Nat.add_zero]
  | d + 1, a, k, h => by
    rw [show d + 1 + k = (d + k) + 1 by omega, upFrom_succ, h a (by omega) (by omega), List.nil_append, upFrom_jump d (a + 1) k (fun i h1 h2 => h i (by omega) (by omega)), show a + 1 + d = a + (d + 1) by omega]
theorem pre_len {a b : List Bs} (h : ∀ (k : Nat) (x : Bs), a[k]? = some x → b[k]? = some x) : a.length ≤ b.length := by
  cases hl : a.length with
  | zero => omega
  | succ n =>
    have := h n _ (List.getElem?_eq_getElem (by omega))
    have := (List.getElem?_eq_some_iff.1 this).1
    omega
/-- While Set goes through a root's eights. -/
structure Lp (mids : List Pt) (s : Sh) (hc now : List Pt) (g0 : Nat) : Prop where
  len : hc.length = 64
  nok : NOK now
  mok : NOK mids
  nd : ∀ i q, now[i]? = some q → IsN s.blocks 1 i q (grp hc i)
  old : ∀ i q, g0 ≤ i → mids[i]? = some q → IsN s.blocks 1 i q (grp hc i) ∧ now[i]? = some q
def mkF (hN hc now : List Pt) (i : Nat) : List Pt := if grp hN i = grp hc i then [] else one (now.getD i zeroP)
def gnF (hN hc mids : List Pt) (i : Nat) : List Pt := if grp hN i = grp hc i then [] else lostF (grp hc i) (grp hN i) 0 (grp hc i) ++ one (mids.getD i zeroP)
structure LpR (mids : List Pt) (s : Sh) (hc now : List Pt) (g0 : Nat) (hN : List Pt) (r : Gw) : Prop where
  e : r.e = 0 ∨ r.e = 21 ∨ r.e = 30
  pre : ∀ (k : Nat) (b : Bs), s.blocks[k]? = some b → r.s.blocks[k]? = some b
  len : r.s.blocks.length ≤ s.blocks.length + (8 - g0)
  bd : r.s.bad = s.bad
  ok : r.e = 0 → NOK r.now ∧ (∀ i q, r.now[i]? = some q → IsN r.s.blocks 1 i q (grp hN i)) ∧ ∀ i, i < g0 → r.now[i]? = now[i]?
  full : s.bad = [] → s.room = -1 → r.e = 0 ∧ r.s.room = -1 ∧ r.s.made = s.made ++ upFrom (mkF hN hc r.now) g0 (8 - g0) ∧ r.s.gone = s.gone ++ upFrom (gnF hN hc mids) g0 (8 - g0) ∧
    (∀ i, grp hN i = grp hc i → r.now[i]? = now[i]?) ∧ (∀ i p, g0 ≤ i → grp hN i ≠ grp hc i → r.now[i]? = some p → p = zeroP ∨ s.blocks.length < p.birth)
theorem loop2 {mids : List Pt} : ∀ (fuel : Nat) (s : Sh) (hc now : List Pt) (g0 : Nat) (l : List Lf), l.length ≤ fuel → Lp mids s hc now g0 → Asc l → (∀ x ∈ l, g0 ≤ x.1 / 8) → s.blocks.length + (8 - g0) < 30000 → g0 ≤ 8 →
    LpR mids s hc now g0 (updH hc l) (goW (withP 9 1) (8 ^ 1) mids fuel s now l)
  | fuel, s, hc, now, g0, [], _, hp, _, _, _, _ => by
    rw [goW_nil]
    have h1 : ∀ i, mkF (updH hc []) hc now i = [] := fun i => by unfold mkF; exact if_pos rfl
    have h2 : ∀ i, gnF (updH hc []) hc mids i = [] := fun i => by unfold gnF; exact if_pos rfl
    refine ⟨.inl rfl, fun _ _ h => h, by show s.blocks.length ≤ _; omega, rfl, fun _ => ⟨hp.nok, hp.nd, fun _ _ => rfl⟩, fun _ hr => ⟨rfl, hr, ?_, ?_, fun _ _ => rfl, fun i p _ h => absurd rfl h⟩⟩
    · rw [upFrom_nil _ _ (fun i _ _ => h1 i), List.append_nil]
    · rw [upFrom_nil _ _ (fun i _ _ => h2 i), List.append_nil]
  | 0, s, hc, now, g0, x :: xs, hf, _, _, _, _, _ => by simp at hf
  | fuel + 1, s, hc, now, g0, x :: xs, hf, hp, ha, hge, hlen, hg8 => by
    obtain ⟨l, hl⟩ : ∃ l, x :: xs = l := ⟨_, rfl⟩
    have hne : l ≠ [] := by rw [← hl]; simp
    have hx : l.getD 0 dl = x := by rw [← hl]; rfl
    have hxm : x ∈ l := by rw [← hl]; simp
    rw [hl] at hf ha hge ⊢
    obtain ⟨hd1, hd2, hd3⟩ := head_part hne ha
    rw [hx] at hd2 hd3
    have hx64 := ha.lt x hxm
    obtain ⟨g, hg⟩ : ∃ g, x.1 / 8 = g := ⟨_, rfl⟩
    have hgx := hge x hxm
    rw [hg] at hd2 hd3 hgx
    have hglt : g < 8 := by omega
    have hgi : (l.getD 0 dl).1 / 8 ^ 1 % 8 = g := by rw [hx]; show x.1 / 8 % 8 = g; omega
    have hpw : (8 ^ 1 : Nat) = 8 := rfl
    obtain ⟨q0, hq0⟩ := hp.mok.get hglt
    have hgD : mids.getD g zeroP = q0 := by rw [List.getD_eq_getElem?_getD, hq0]; rfl
    obtain ⟨hn0, hnow0⟩ := hp.old g q0 hgx hq0
    obtain ⟨pt, hpt⟩ : ∃ pt, l.take (headN 8 l) = pt := ⟨_, rfl⟩
    obtain ⟨rs, hrs⟩ : ∃ rs, l.drop (headN 8 l) = rs := ⟨_, rfl⟩
    have hpne : pt ≠ [] := by
      rw [← hpt]
      intro e
      have h3 : (l.take (headN 8 l)).length = 0 := by rw [e]; rfl
      rw [List.length_take] at h3
      have h0 : 0 < l.length := by rw [← hl]; simp
      omega
    have hap : Asc pt := by rw [← hpt]; exact ha.take _
    have har : Asc rs := by rw [← hrs]; exact ha.drop _
    rw [hpt] at hd2
    rw [hrs] at hd3
    have W := with1 hn0 hpne hap hd2 (by omega)
    obtain ⟨hu1, hu2⟩ := grp_upd pt hc hp.len hd2
    obtain ⟨rw_, hrw⟩ : ∃ r, withP 9 1 s q0 pt = r := ⟨_, rfl⟩
    rw [hrw] at W
    rw [← hu1] at W
    have hfe : withP 9 1 s (mids.getD ((l.getD 0 dl).1 / 8 ^ 1 % 8) zeroP) (l.take (headN (8 ^ 1) l)) = rw_ := by rw [hgi, hgD, hpw, hpt, hrw]
    have hNe : updH hc l = updH (updH hc pt) rs := by rw [← updH_append, ← hpt, ← hrs, List.take_append_drop]
    by_cases he : rw_.e = 0
    · rw [goW_ok hne (by rw [hfe]; exact he), hfe, hgi, hpw, hrs]
      have hml := pre_len W.pre
      have hgN : ∀ i, i < g + 1 → grp (updH hc l) i = grp (updH hc pt) i := fun i hi => by rw [hNe]; exact grp_off rs _ (by rw [updH_len]; exact hp.len) hd3 i hi
      have hLp : Lp mids rw_.s (updH hc pt) (now.set g rw_.p) (g + 1) := by
        refine ⟨by rw [updH_len]; exact hp.len, hp.nok.set g ((W.ok he).ok (by omega)), hp.mok, fun i q hi => ?_, fun i q hgi2 hi => ?_⟩
        · by_cases e : g = i
          · subst e
            rw [List.getElem?_set_self (by rw [hp.nok.len]; exact hglt)] at hi
            rw [← Option.some.inj hi]
            exact W.ok he
          · rw [List.getElem?_set_ne e] at hi
            rw [hu2 i (fun h => e h.symm)]
            exact (hp.nd i q hi).mono W.pre
        · obtain ⟨h1, h2⟩ := hp.old i q (by omega) hi
          rw [hu2 i (by omega), List.getElem?_set_ne (by omega)]
          exact ⟨h1.mono W.pre, h2⟩
      have R := loop2 fuel rw_.s (updH hc pt) (now.set g rw_.p) (g + 1) rs (by rw [← hrs, List.length_drop]; omega) hLp har hd3 (by have := W.len; omega) (by omega)
      rw [← hNe] at R
      rw [hpw] at R
      obtain ⟨r, hr⟩ : ∃ r, goW (withP 9 1) 8 mids fuel rw_.s (now.set g rw_.p) rs = r := ⟨_, rfl⟩
      rw [hr] at R ⊢
      have hset : (now.set g rw_.p)[g]? = some rw_.p := List.getElem?_set_self (by rw [hp.nok.len]; exact hglt)
      refine ⟨R.e, fun k b h => R.pre k b (W.pre k b h), by have := R.len; have := W.len; omega, R.bd.trans W.bd, fun h0 => ⟨(R.ok h0).1, (R.ok h0).2.1, fun i hi => ?_⟩, fun hb hroom => ?_⟩
      · rw [(R.ok h0).2.2 i (by omega), List.getElem?_set_ne (by omega)]
      · obtain ⟨-, w2, w3, w4⟩ := W.full hb hroom
        obtain ⟨f1, f2, f3, f4, f5, f6⟩ := R.full (W.bd.trans hb) w2
        have hrg : r.now[g]? = some rw_.p := by rw [(R.ok f1).2.2 g (by omega), hset]
        have hrgD : r.now.getD g zeroP = rw_.p := by rw [List.getD_eq_getElem?_getD, hrg]; rfl
        have hsame : ∀ i, i < g → grp (updH hc l) i = grp hc i := fun i hi => by rw [hgN i (by omega), hu2 i (by omega)]
        have e1 : upFrom (mkF (updH hc l) hc r.now) g0 (8 - g0) = mkF (updH hc l) hc r.now g ++ upFrom (mkF (updH hc l) (updH hc pt) r.now) (g + 1) (8 - (g + 1)) := by
          rw [show 8 - g0 = (g - g0) + ((8 - (g + 1)) + 1) by omega, upFrom_jump _ _ _ (fun i h1 h2 => by unfold mkF; rw [if_pos (hsame i (by omega))]), show g0 + (g - g0) = g by omega, upFrom_succ]
          congr 1
          exact upFrom_congr _ _ (fun i h1 h2 => by unfold mkF; rw [hu2 i (by omega)])
        have e2 : upFrom (gnF (updH hc l) hc mids) g0 (8 - g0) = gnF (updH hc l) hc mids g ++ upFrom (gnF (updH hc l) (updH hc pt) mids) (g + 1) (8 - (g + 1)) := by
          rw [show 8 - g0 = (g - g0) + ((8 - (g + 1)) + 1) by omega, upFrom_jump _ _ _ (fun i h1 h2 => by unfold gnF; rw [if_pos (hsame i (by omega))]), show g0 + (g - g0) = g by omega, upFrom_succ]
          congr 1
          exact upFrom_congr _ _ (fun i h1 h2 => by unfold gnF; rw [hu2 i (by omega)])
        have hmk : rw_.s.made = s.made ++ mkF (updH hc l) hc r.now g ∧ rw_.s.gone = s.gone ++ gnF (updH hc l) hc mids g := by
          unfold mkF gnF
          rw [hgN g (by omega), hrgD, hgD]
          by_cases hc2 : grp (updH hc pt) g = grp hc g
          · rw [if_pos hc2, if_pos hc2, List.append_nil, List.append_nil]
            exact (w3 hc2).2
          · rw [if_neg hc2, if_neg hc2]
            exact ⟨(w4 hc2).2.1, by rw [(w4 hc2).1]; rfl⟩
        refine ⟨f1, f2, by rw [f3, hmk.1, e1, List.append_assoc], by rw [f4, hmk.2, e2, List.append_assoc], fun i hi => ?_, fun i p hi hch hip => ?_⟩
        · by_cases e : i = g
          · subst e
            rw [hrg, hnow0]
            rw [hgN i (by omega)] at hi
            rw [(w3 hi).1]
          · rw [f5 i (by rw [hi, hu2 i e]), List.getElem?_set_ne (by omega)]
        · by_cases e : i = g
          · subst e
            rw [hrg] at hip
            rw [hgN i (by omega)] at hch
            rw [← Option.some.inj hip]
            exact (w4 hch).2.2
          · by_cases hlt : i < g
            · exact absurd (hsame i hlt) hch
            · rcases f6 i p (by omega) (by rw [hu2 i e]; exact hch) hip with h | h
              · exact .inl h
              · exact .inr (by omega)
    · obtain ⟨g1, g2⟩ := goW_err (f := withP 9 1) (wide := 8 ^ 1) (was := mids) (fuel := fuel) (s := s) (now := now) hne (by rw [hfe]; exact he)
      rw [hfe] at g1 g2
      refine ⟨by rw [g1]; exact W.e, fun k b h => by rw [g2]; exact W.pre k b h, by rw [g2]; have := W.len; omega, by rw [g2]; exact W.bd, fun h0 => absurd (g1.symm.trans h0) he, fun hb hroom => absurd (W.full hb hroom).1 he⟩
/-- What Set does to a tree. -/
structure StT (s : Sh) (root : Pt) (h mids : List Pt) (hN : List Pt) (r : Ww) : Prop where
  e : r.e = 0 ∨ r.e = 21 ∨ r.e = 30
  pre : ∀ (k : Nat) (b : Bs), s.blocks[k]? = some b → r.s.blocks[k]? = some b
  len : r.s.blocks.length ≤ s.blocks.length + 9
  bd : r.s.bad = s.bad
  full : s.bad = [] → s.room = -1 → r.e = 0 ∧ r.s.room = -1 ∧ ∃ mids', IsT r.s.blocks r.p hN mids' ∧
    r.s.made = s.made ++ (upFrom (mkF hN h mids') 0 8 ++ (if mids' = mids then [] else one r.p)) ∧ r.s.gone = s.gone ++ (upFrom (gnF hN h mids) 0 8 ++ (if mids' = mids then [] else one root)) ∧
    (mids' = mids → r.p = root) ∧ (mids' ≠ mids → r.p = zeroP ∨ s.blocks.length < r.p.birth) ∧
    (∀ i, grp hN i = grp h i → mids'[i]? = mids[i]?) ∧ (∀ i p, grp hN i ≠ grp h i → mids'[i]? = some p → p = zeroP ∨ s.blocks.length < p.birth)
theorem updH_ok {h : List Pt} {l : List Lf} (hh : ∀ p ∈ h, p.OK) (ha : Asc l) : ∀ p ∈ updH h l, p.OK := fun p hp => by
  rcases mem_updH l h p hp with h1 | ⟨x, hx, e⟩
  · exact hh p h1
  · rw [e]; exact (ha.ok x hx).1
theorem setOk_asc {l : List Lf} (ha : Asc l) : setOk l = true := setOk_yes fun i hi => by
  obtain ⟨x, hx⟩ : ∃ x, l[i]? = some x := ⟨_, List.getElem?_eq_getElem hi⟩
  have hm := List.mem_of_getElem? hx
  unfold goodAt
  rw [hx]
  simp only
  have h1 := ha.lt x hm
  have h2 := (ha.ok x hm).2
  unfold fineP at h2
  rw [h2, decide_eq_true h1]
  by_cases h0 : i = 0
  · simp [h0]
  · obtain ⟨y, hy⟩ : ∃ y, l[i - 1]? = some y := ⟨_, List.getElem?_eq_getElem (by omega)⟩
    have hyx := List.pairwise_iff_getElem.1 ha.asc (i - 1) i (by omega) hi (by omega)
    rw [List.getElem?_eq_getElem hi] at hx
    rw [List.getElem?_eq_getElem (by omega)] at hy
    rw [List.getD_eq_getElem?_getD, List.getElem?_eq_getElem (by omega)]
    simp only [Option.some.inj hx, Option.some.inj hy, Option.getD_some] at hyx ⊢
    simp [hyx]
theorem set_tree {s : Sh} {root : Pt} {h mids : List Pt} {l : List Lf} (ht : IsT s.blocks root h mids) (ha : Asc l) (hlen : s.blocks.length + 9 < 30000) : StT s root h mids (updH h l) (setR s root 9 l) := by
  have hr := ht.ref0
  unfold setR
  rw [if_neg (by omega), setOk_asc ha]
  simp only [Bool.true_eq_false, if_false]
  by_cases hl : l = []
  · subst hl
    have hw : withP 9 2 s root [] = ⟨root, 0, s⟩ := by rw [withP_succ, if_pos rfl]
    rw [hw]
    have h1 : ∀ i, mkF (updH h []) h mids i = [] := fun i => by unfold mkF; exact if_pos rfl
    have h2 : ∀ i, gnF (updH h []) h mids i = [] := fun i => by unfold gnF; exact if_pos rfl
    refine ⟨.inl rfl, fun _ _ h => h, by show s.blocks.length ≤ _; omega, rfl, fun _ hroom => ⟨rfl, hroom, mids, ht, ?_, ?_, fun _ => rfl, fun h => absurd rfl h, fun _ _ => rfl, fun i p h => absurd rfl h⟩⟩
    · rw [upFrom_nil _ _ (fun i _ _ => h1 i), if_pos rfl]; simp
    · rw [upFrom_nil _ _ (fun i _ _ => h2 i), if_pos rfl]; simp
  · rw [withP_succ, if_neg hl]
    rcases rn_ok ht.2.2.1 with ⟨r1, r2⟩ | ⟨r1, r2⟩
    · rw [if_neg (by omega), r2, rnS_eq]
      have hLp : Lp mids { s with read0 := s.read0 ++ one root } h mids 0 := ⟨ht.1, ht.2.2.1.1, ht.2.2.1.1, ht.2.2.2, fun i q _ hq => ⟨ht.2.2.2 i q hq, hq⟩⟩
      have R := loop2 l.length { s with read0 := s.read0 ++ one root } h mids 0 l (Nat.le_refl _) hLp ha (fun x _ => by omega) (by show s.blocks.length + _ < _; omega) (by omega)
      obtain ⟨gw, hgw⟩ : ∃ g, goW (withP 9 1) (8 ^ 1) mids l.length { s with read0 := s.read0 ++ one root } mids l = g := ⟨_, rfl⟩
      rw [hgw] at R ⊢
      have hoff : (l.getD 0 dl).1 / 8 ^ (1 + 1) = 0 := by
        obtain ⟨x, hx⟩ : ∃ x, l[0]? = some x := ⟨_, List.getElem?_eq_getElem (by cases l with | nil => exact absurd rfl hl | cons a b => simp)⟩
        rw [List.getD_eq_getElem?_getD, hx]
        have := ha.lt x (List.mem_of_getElem? hx)
        show x.1 / 64 = 0
        omega
      by_cases he : gw.e = 0
      · obtain ⟨o1, o2, o3⟩ := R.ok he
        have hgeq : gw = ⟨gw.now, 0, gw.s⟩ := by cases gw; simp only at he; rw [he]
        have hfine : ∀ p ∈ gw.now, fineP p = true := fun p hp => by
          obtain ⟨i, hi⟩ := List.getElem?_of_mem hp
          exact (o2 i p hi).fine (by omega)
        have W := end_node (s0 := gw.s) (.inr rfl) (ht.2.2.1.mono (fun k b h => R.pre k b h)) o1 hfine hoff (by have := R.len; have : ({ s with read0 := s.read0 ++ one root } : Sh).blocks.length = s.blocks.length := rfl; omega) ⟨rfl, rfl, rfl, rfl, rfl⟩
        rw [← hgeq] at W
        obtain ⟨r, hrr⟩ : ∃ r, endW 9 (1 + 1) root mids ((l.getD 0 dl).1 / 8 ^ (1 + 1)) gw = r := ⟨_, rfl⟩
        rw [hrr] at W ⊢
        have hbl : s.blocks.length ≤ gw.s.blocks.length := pre_len (a := s.blocks) (fun k b h => R.pre k b h)
        refine ⟨W.e, fun k b h => W.pre k b (R.pre k b h), by have := W.len; have h8 : gw.s.blocks.length ≤ s.blocks.length + 8 := R.len; omega, W.bd.trans R.bd, fun hb hroom => ?_⟩
        obtain ⟨f1, f2, f3, f4, f5, f6⟩ := R.full hb hroom
        obtain ⟨w1, w2, w3, w4⟩ := W.full (R.bd.trans hb) f2
        refine ⟨w1, w2, gw.now, ⟨by rw [updH_len]; exact ht.1, updH_ok ht.2.1 ha, W.ok w1, fun i q hq => (o2 i q hq).mono W.pre⟩, ?_, ?_, fun hm => (w3 hm).1, fun hm => ?_, f5, fun i p hch hp => f6 i p (by omega) hch hp⟩
        · by_cases hm : gw.now = mids
          · rw [(w3 hm).2.1, f3, if_pos hm, List.append_nil]
          · rw [(w4 hm).2.1, f3, if_neg hm, List.append_assoc]
        · by_cases hm : gw.now = mids
          · rw [(w3 hm).2.2, f4, if_pos hm, List.append_nil]
          · rw [(w4 hm).1, f4, if_neg hm, List.append_assoc]
            rfl
        · rcases (w4 hm).2.2 with h | h
          · exact .inl h
          · exact .inr (by omega)
      · have hend : endW 9 (1 + 1) root mids ((l.getD 0 dl).1 / 8 ^ (1 + 1)) gw = ⟨zeroP, gw.e, gw.s⟩ := by unfold endW; rw [if_pos he]
        rw [hend]
        refine ⟨R.e, fun k b h => R.pre k b h, by have h8 : gw.s.blocks.length ≤ s.blocks.length + 8 := R.len; show gw.s.blocks.length ≤ _; omega, R.bd, fun hb hroom => absurd (R.full hb hroom).1 he⟩
    · rw [if_pos (by omega), r1, rnS_eq]
      exact ⟨.inr (.inl rfl), fun k b h => h, Nat.le_add_right _ _, rfl, fun hb => absurd hb r2⟩
end Go.Proofs.YtfcjeceoedfldaaDoor
