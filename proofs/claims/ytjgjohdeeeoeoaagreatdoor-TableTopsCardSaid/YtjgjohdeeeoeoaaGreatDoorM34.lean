/- Trees, plain: Set on a whole tree. -/
import Derived.Test.YtjgjohdeeeoeoaaGreatDoorM33
import Derived.Test.YtjgjohdeeeoeoaaGreatDoorM27
import Derived.Test.YtjgjohdeeeoeoaaGreatDoorM24
import Derived.Test.YtjgjohdeeeoeoaaGreatDoorM32
namespace Go.Proofs.YtjgjohdeeeoeoaaGreatDoor
open Go.RowKit
def upFrom (f : Nat → List Pt) (a k : Nat) : List Pt := (List.range' a k).flatMap f
theorem upFrom_zero (f : Nat → List Pt) (a : Nat) : upFrom f a 0 = [] := rfl
theorem upFrom_succ (f : Nat → List Pt) (a k : Nat) : upFrom f a (k + 1) = f a ++ upFrom f (a + 1) k := by unfold upFrom; rw [List.range'_succ, List.flatMap_cons]
theorem upFrom_nil {f : Nat → List Pt} : ∀ (k a : Nat), (∀ i, a ≤ i → i < a + k → f i = []) → upFrom f a k = []
  | 0, _, _ => rfl
  | k + 1, a, h => by rw [upFrom_succ, h a (by omega) (by omega), upFrom_nil k (a + 1) (fun i h1 h2 => h i (by omega) (by omega))]; rfl
theorem upFrom_congr {f f' : Nat → List Pt} : ∀ (k a : Nat), (∀ i, a ≤ i → i < a + k → f i = f' i) → upFrom f a k = upFrom f' a k
  | 0, _, _ => rfl
  | k + 1, a, h => by rw [upFrom_succ, upFrom_succ, h a (by omega) (by omega), upFrom_congr k (a + 1) (fun i h1 h2 => h i (by omega) (by omega))]
theorem upFrom_jump {f : Nat → List Pt} : ∀ (d a k : Nat), (∀ i, a ≤ i → i < a + d → f i = []) → upFrom f a (d + k) = upFrom f (a + d) k
  | 0, a, k, _ => by rw [Nat.zero_add, Nat.add_zero]
  | d + 1, a, k, h => by
    rw [show d + 1 + k = (d + k) + 1 by omega, upFrom_succ, h a (by omega) (by omega), List.nil_append, upFrom_jump d (a + 1) k (fun i h1 h2 => h i (by omega) (by omega)), show a + 1 + d = a + (d + 1) by omega]
theorem pre_len {a b : List Bs} (h : ∀ (k : Nat) (x : Bs), a[k]? = some x → b[k]? = some x) : a.length ≤ b.length := by
  cases hl : a.length with
  | zero => omega
  | succ n =>
    have := h n _ (List.getElem?_eq_getElem (by omega))
    have := (List.getElem?_eq_some_iff.1 this).1
    omega
structure Lp (mids : List Pt) (s : Sh) (hc now : List Pt) (g0 : Nat) : Prop where
  len : hc.length = 64
  nok : NOK now
  mok : NOK mids
  nd : ∀ i q, now[i]? = some q → IsN s.blocks 1 i q (grp hc i)
  old : ∀ i q, g0 ≤ i → mids[i]? = some q → IsN s.blocks 1 i q (grp hc i) ∧ now[i]? = some q
def mkF (hN hc now : List Pt) (i : Nat) : List Pt := if grp hN i = grp hc i then [] else one (now.getD i zeroP)
def gnF (hN hc mids : List Pt) (i : Nat) : List Pt := if grp hN i = grp hc i then [] else lostF (grp hc i) (grp hN i) 0 (grp hc i) ++ one (mids.getD i zeroP)
structure LpR (mids : List Pt) (s : Sh) (hc now : List Pt) (g0 : Nat) (hN : List Pt) (r : Gw) : Prop where
  e : r.e = 0 ∨ r.e = 21 ∨ r.e = 30
  pre : ∀ (k : Nat) (b : Bs), s.blocks[k]? = some b → r.s.blocks[k]? = some b
  len : r.s.blocks.length ≤ s.blocks.length + (8 - g0)
  bd : r.s.bad = s.bad
  ok : r.e = 0 → NOK r.now ∧ (∀ i q, r.now[i]? = some q → IsN r.s.blocks 1 i q (grp hN i)) ∧ ∀ i, i < g0 → r.now[i]? = now[i]?
  full : s.bad = [] → s.room = -1 → r.e = 0 ∧ r.s.room = -1 ∧ r.s.made = s.made ++ upFrom (mkF hN hc r.now) g0 (8 - g0) ∧ r.s.gone = s.gone ++ upFrom (gnF hN hc mids) g0 (8 - g0) ∧
    (∀ i, grp hN i = grp hc i → r.now[i]? = now[i]?) ∧ (∀ i p, g0 ≤ i → grp hN i ≠ grp hc i → r.now[i]? = some p → p = zeroP ∨ s.blocks.length < p.birth)
theorem loop2 {mids : List Pt} : ∀ (fuel : Nat) (s : Sh) (hc now : List Pt) (g0 : Nat) (l : List Lf), l.length ≤ fuel → Lp mids s hc now g0 → Asc l → (∀ x ∈ l, g0 ≤ x.1 / 8) → s.blocks.length + (8 - g0) < 30000 → g0 ≤ 8 →
    LpR mids s hc now g0 (updH hc l) (goW (withP 0 1) (8 ^ 1) mids fuel s now l)
  | fuel, s, hc, now, g0, [], _, hp, _, _, _, _ => by
    rw [goW_nil]
    have h1 : ∀ i, mkF (updH hc []) hc now i = [] := fun i => by unfold mkF; exact if_pos rfl
    have h2 : ∀ i, gnF (updH hc []) hc mids i = [] := fun i => by unfold gnF; exact if_pos rfl
    refine ⟨.inl rfl, fun _ _ h => h, by show s.blocks.length ≤ _; omega, rfl, fun _ => ⟨hp.nok, hp.nd, fun _ _ => rfl⟩, fun _ hr => ⟨rfl, hr, ?_, ?_, fun _ _ => rfl, fun i p _ h => absurd rfl h⟩⟩
    · rw [upFrom_nil _ _ (fun i _ _ => h1 i), List.append_nil]
    · rw [upFrom_nil _ _ (fun i _ _ => h2 i), List.append_nil]
  | 0, s, hc, now, g0, x :: xs, hf, _, _, _, _, _ => by simp at hf
  | fuel + 1, s, hc, now, g0, x :: xs, hf, hp, ha, hge, hlen, hg8 => by
    obtain ⟨l, hl⟩ : ∃ l, x :: xs = l := ⟨_, rfl⟩
    have hne : l ≠ [] := by rw [← hl]; simp
    have hx : l.getD 0 dl = x := by rw [← hl]; rfl
    have hxm : x ∈ l := by rw [← hl]; simp
    rw [hl] at hf ha hge ⊢
    obtain ⟨hd1, hd2, hd3⟩ := head_part hne ha
    rw [hx] at hd2 hd3
    have hx64 := ha.lt x hxm
    obtain ⟨g, hg⟩ : ∃ g, x.1 / 8 = g := ⟨_, rfl⟩
    have hgx := hge x hxm
    rw [hg] at hd2 hd3 hgx
    have hglt : g < 8 := by omega
    have hgi : (l.getD 0 dl).1 / 8 ^ 1 % 8 = g := by rw [hx]; show x.1 / 8 % 8 = g; omega
    have hpw : (8 ^ 1 : Nat) = 8 := rfl
    obtain ⟨q0, hq0⟩ := hp.mok.get hglt
    have hgD : mids.getD g zeroP = q0 := by rw [List.getD_eq_getElem?_getD, hq0]; rfl
    obtain ⟨hn0, hnow0⟩ := hp.old g q0 hgx hq0
    obtain ⟨pt, hpt⟩ : ∃ pt, l.take (headN 8 l) = pt := ⟨_, rfl⟩
    obtain ⟨rs, hrs⟩ : ∃ rs, l.drop (headN 8 l) = rs := ⟨_, rfl⟩
    have hpne : pt ≠ [] := by
      rw [← hpt]
      intro e
      have h3 : (l.take (headN 8 l)).length = 0 := by rw [e]; rfl
      rw [List.length_take] at h3
      have h0 : 0 < l.length := by rw [← hl]; simp
      omega
    have hap : Asc pt := by rw [← hpt]; exact ha.take _
    have har : Asc rs := by rw [← hrs]; exact ha.drop _
    rw [hpt] at hd2
    rw [hrs] at hd3
    have W := with1 hn0 hpne hap hd2 (by omega)
    obtain ⟨hu1, hu2⟩ := grp_upd pt hc hp.len hd2
    obtain ⟨rw_, hrw⟩ : ∃ r, withP 0 1 s q0 pt = r := ⟨_, rfl⟩
    rw [hrw] at W
    rw [← hu1] at W
    have hfe : withP 0 1 s (mids.getD ((l.getD 0 dl).1 / 8 ^ 1 % 8) zeroP) (l.take (headN (8 ^ 1) l)) = rw_ := by rw [hgi, hgD, hpw, hpt, hrw]
    have hNe : updH hc l = updH (updH hc pt) rs := by rw [← updH_append, ← hpt, ← hrs, List.take_append_drop]
    by_cases he : rw_.e = 0
    · rw [goW_ok hne (by rw [hfe]; exact he), hfe, hgi, hpw, hrs]
      have hml := pre_len W.pre
      have hgN : ∀ i, i < g + 1 → grp (updH hc l) i = grp (updH hc pt) i := fun i hi => by rw [hNe]; exact grp_off rs _ (by rw [updH_len]; exact hp.len) hd3 i hi
      have hLp : Lp mids rw_.s (updH hc pt) (now.set g rw_.p) (g + 1) := by
        refine ⟨by rw [updH_len]; exact hp.len, hp.nok.set g ((W.ok he).ok (by omega)), hp.mok, fun i q hi => ?_, fun i q hgi2 hi => ?_⟩
        · by_cases e : g = i
          · subst e
            rw [List.getElem?_set_self (by rw [hp.nok.len]; exact hglt)] at hi
            rw [← Option.some.inj hi]
            exact W.ok he
          · rw [List.getElem?_set_ne e] at hi
            rw [hu2 i (fun h => e h.symm)]
            exact (hp.nd i q hi).mono W.pre
        · obtain ⟨h1, h2⟩ := hp.old i q (by omega) hi
          rw [hu2 i (by omega), List.getElem?_set_ne (by omega)]
          exact ⟨h1.mono W.pre, h2⟩
      have R := loop2 fuel rw_.s (updH hc pt) (now.set g rw_.p) (g + 1) rs (by rw [← hrs, List.length_drop]; omega) hLp har hd3 (by have := W.len; omega) (by omega)
      rw [← hNe] at R
      rw [hpw] at R
      obtain ⟨r, hr⟩ : ∃ r, goW (withP 0 1) 8 mids fuel rw_.s (now.set g rw_.p) rs = r := ⟨_, rfl⟩
      rw [hr] at R ⊢
      have hset : (now.set g rw_.p)[g]? = some rw_.p := List.getElem?_set_self (by rw [hp.nok.len]; exact hglt)
      refine ⟨R.e, fun k b h => R.pre k b (W.pre k b h), by have := R.len; have := W.len; omega, R.bd.trans W.bd, fun h0 => ⟨(R.ok h0).1, (R.ok h0).2.1, fun i hi => ?_⟩, fun hb hroom => ?_⟩
      · rw [(R.ok h0).2.2 i (by omega), List.getElem?_set_ne (by omega)]
      · obtain ⟨-, w2, w3, w4⟩ := W.full hb hroom
        obtain ⟨f1, f2, f3, f4, f5, f6⟩ := R.full (W.bd.trans hb) w2
        have hrg : r.now[g]? = some rw_.p := by rw [(R.ok f1).2.2 g (by omega), hset]
        have hrgD : r.now.getD g zeroP = rw_.p := by rw [List.getD_eq_getElem?_getD, hrg]; rfl
        have hsame : ∀ i, i < g → grp (updH hc l) i = grp hc i := fun i hi => by rw [hgN i (by omega), hu2 i (by omega)]
        have e1 : upFrom (mkF (updH hc l) hc r.now) g0 (8 - g0) = mkF (updH hc l) hc r.now g ++ upFrom (mkF (updH hc l) (updH hc pt) r.now) (g + 1) (8 - (g + 1)) := by
          rw [show 8 - g0 = (g - g0) + ((8 - (g + 1)) + 1) by omega, upFrom_jump _ _ _ (fun i h1 h2 => by unfold mkF; rw [if_pos (hsame i (by omega))]), show g0 + (g - g0) = g by omega, upFrom_succ]
          congr 1
          exact upFrom_congr _ _ (fun i h1 h2 => by unfold mkF; rw [hu2 i (by omega)])
        have e2 : upFrom (gnF (updH hc l) hc mids) g0 (8 - g0) = gnF (updH hc l) hc mids g ++ upFrom (gnF (updH hc l) (updH hc pt) mids) (g + 1) (8 - (g + 1)) := by
          rw [show 8 - g0 = (g - g0) + ((8 - (g + 1)) + 1) by omega, upFrom_jump _ _ _ (fun i h1 h2 => by unfold gnF; rw [if_pos (hsame i (by omega))]), show g0 + (g - g0) = g by omega, upFrom_succ]
          congr 1
          exact upFrom_congr _ _ (fun i h1 h2 => by unfold gnF; rw [hu2 i (by omega)])
        have hmk : rw_.s.made = s.made ++ mkF (updH hc l) hc r.now g ∧ rw_.s.gone = s.gone ++ gnF (updH hc l) hc mids g := by
          unfold mkF gnF
          rw [hgN g (by omega), hrgD, hgD]
          by_cases hc2 : grp (updH hc pt) g = grp hc g
          · rw [if_pos hc2, if_pos hc2, List.append_nil, List.append_nil]
            exact (w3 hc2).2
          · rw [if_neg hc2, if_neg hc2]
            exact ⟨(w4 hc2).2.1, by rw [(w4 hc2).1]; rfl⟩
        refine ⟨f1, f2, by rw [f3, hmk.1, e1, List.append_assoc], by rw [f4, hmk.2, e2, List.append_assoc], fun i hi => ?_, fun i p hi hch hip => ?_⟩
        · by_cases e : i = g
          · subst e
            rw [hrg, hnow0]
            rw [hgN i (by omega)] at hi
            rw [(w3 hi).1]
          · rw [f5 i (by rw [hi, hu2 i e]), List.getElem?_set_ne (by omega)]
        · by_cases e : i = g
          · subst e
            rw [hrg] at hip
            rw [hgN i (by omega)] at hch
            rw [← Option.some.inj hip]
            exact (w4 hch).2.2
          · by_cases hlt : i < g
            · exact absurd (hsame i hlt) hch
            · rcases f6 i p (by omega) (by rw [hu2 i e]; exact hch) hip with h | h
              · exact .inl h
              · exact .inr (by omega)
    · obtain ⟨g1, g2⟩ := goW_err (f := withP 0 1) (wide := 8 ^ 1) (was := mids) (fuel := fuel) (s := s) (now := now) hne (by rw [hfe]; exact he)
      rw [hfe] at g1 g2
      refine ⟨by rw [g1]; exact W.e, fun k b h => by rw [g2]; exact W.pre k b h, by rw [g2]; have := W.len; omega, by rw [g2]; exact W.bd, fun h0 => absurd (g1.symm.trans h0) he, fun hb hroom => absurd (W.full hb hroom).1 he⟩
structure StT (s : Sh) (root : Pt) (h mids : List Pt) (hN : List Pt) (r : Ww) : Prop where
  e : r.e = 0 ∨ r.e = 21 ∨ r.e = 30
  pre : ∀ (k : Nat) (b : Bs), s.blocks[k]? = some b → r.s.blocks[k]? = some b
  len : r.s.blocks.length ≤ s.blocks.length + 9
  bd : r.s.bad = s.bad
  full : s.bad = [] → s.room = -1 → r.e = 0 ∧ r.s.room = -1 ∧ ∃ mids', IsT r.s.blocks r.p hN mids' ∧
    r.s.made = s.made ++ (upFrom (mkF hN h mids') 0 8 ++ (if mids' = mids then [] else one r.p)) ∧ r.s.gone = s.gone ++ (upFrom (gnF hN h mids) 0 8 ++ (if mids' = mids then [] else one root)) ∧
    (mids' = mids → r.p = root) ∧ (mids' ≠ mids → r.p = zeroP ∨ s.blocks.length < r.p.birth) ∧
    (∀ i, grp hN i = grp h i → mids'[i]? = mids[i]?) ∧ (∀ i p, grp hN i ≠ grp h i → mids'[i]? = some p → p = zeroP ∨ s.blocks.length < p.birth)
theorem updH_ok {h : List Pt} {l : List Lf} (hh : ∀ p ∈ h, p.OK) (ha : Asc l) : ∀ p ∈ updH h l, p.OK := fun p hp => by
  rcases mem_updH l h p hp with h1 | ⟨x, hx, e⟩
  · exact hh p h1
  · rw [e]; exact (ha.ok x hx).1
theorem setOk_asc {l : List Lf} (ha : Asc l) : setOk l = true := setOk_yes fun i hi => by
  obtain ⟨x, hx⟩ : ∃ x, l[i]? = some x := ⟨_, List.getElem?_eq_getElem hi⟩
  have hm := List.mem_of_getElem? hx
  unfold goodAt
  rw [hx]
  simp only
  have h1 := ha.lt x hm
  have h2 := (ha.ok x hm).2
  unfold fineP at h2
  rw [h2, decide_eq_true h1]
  by_cases h0 : i = 0
  · simp [h0]
  · obtain ⟨y, hy⟩ : ∃ y, l[i - 1]? = some y := ⟨_, List.getElem?_eq_getElem (by omega)⟩
    have hyx := List.pairwise_iff_getElem.1 ha.asc (i - 1) i (by omega) hi (by omega)
    rw [List.getElem?_eq_getElem hi] at hx
    rw [List.getElem?_eq_getElem (by omega)] at hy
    rw [List.getD_eq_getElem?_getD, List.getElem?_eq_getElem (by omega)]
    simp only [Option.some.inj hx, Option.some.inj hy, Option.getD_some] at hyx ⊢
    simp [hyx]
theorem set_tree {s : Sh} {root : Pt} {h mids : List Pt} {l : List Lf} (ht : IsT s.blocks root h mids) (ha : Asc l) (hlen : s.blocks.length + 9 < 30000) : StT s root h mids (updH h l) (setR s root 0 l) := by
  have hr := ht.ref0
  unfold setR
  rw [if_neg (by omega), setOk_asc ha]
  simp only [Bool.true_eq_false, if_false]
  by_cases hl : l = []
  · subst hl
    have hw : withP 0 2 s root [] = ⟨root, 0, s⟩ := by rw [withP_succ, if_pos rfl]
    rw [hw]
    have h1 : ∀ i, mkF (updH h []) h mids i = [] := fun i => by unfold mkF; exact if_pos rfl
    have h2 : ∀ i, gnF (updH h []) h mids i = [] := fun i => by unfold gnF; exact if_pos rfl
    refine ⟨.inl rfl, fun _ _ h => h, by show s.blocks.length ≤ _; omega, rfl, fun _ hroom => ⟨rfl, hroom, mids, ht, ?_, ?_, fun _ => rfl, fun h => absurd rfl h, fun _ _ => rfl, fun i p h => absurd rfl h⟩⟩
    · rw [upFrom_nil _ _ (fun i _ _ => h1 i), if_pos rfl]; simp
    · rw [upFrom_nil _ _ (fun i _ _ => h2 i), if_pos rfl]; simp
  · rw [withP_succ, if_neg hl]
    rcases rn_ok ht.2.2.1 with ⟨r1, r2⟩ | ⟨r1, r2⟩
    · rw [if_neg (by omega), r2, rnS_eq]
      have hLp : Lp mids { s with read0 := s.read0 ++ one root } h mids 0 := ⟨ht.1, ht.2.2.1.1, ht.2.2.1.1, ht.2.2.2, fun i q _ hq => ⟨ht.2.2.2 i q hq, hq⟩⟩
      have R := loop2 l.length { s with read0 := s.read0 ++ one root } h mids 0 l (Nat.le_refl _) hLp ha (fun x _ => by omega) (by show s.blocks.length + _ < _; omega) (by omega)
      obtain ⟨gw, hgw⟩ : ∃ g, goW (withP 0 1) (8 ^ 1) mids l.length { s with read0 := s.read0 ++ one root } mids l = g := ⟨_, rfl⟩
      rw [hgw] at R ⊢
      have hoff : (l.getD 0 dl).1 / 8 ^ (1 + 1) = 0 := by
        obtain ⟨x, hx⟩ : ∃ x, l[0]? = some x := ⟨_, List.getElem?_eq_getElem (by cases l with | nil => exact absurd rfl hl | cons a b => simp)⟩
        rw [List.getD_eq_getElem?_getD, hx]
        have := ha.lt x (List.mem_of_getElem? hx)
        show x.1 / 64 = 0
        omega
      by_cases he : gw.e = 0
      · obtain ⟨o1, o2, o3⟩ := R.ok he
        have hgeq : gw = ⟨gw.now, 0, gw.s⟩ := by cases gw; simp only at he; rw [he]
        have hfine : ∀ p ∈ gw.now, fineP p = true := fun p hp => by
          obtain ⟨i, hi⟩ := List.getElem?_of_mem hp
          exact (o2 i p hi).fine (by omega)
        have W := end_node (s0 := gw.s) (.inr rfl) (ht.2.2.1.mono (fun k b h => R.pre k b h)) o1 hfine hoff (by have := R.len; have : ({ s with read0 := s.read0 ++ one root } : Sh).blocks.length = s.blocks.length := rfl; omega) ⟨rfl, rfl, rfl, rfl, rfl⟩
        rw [← hgeq] at W
        obtain ⟨r, hrr⟩ : ∃ r, endW 0 (1 + 1) root mids ((l.getD 0 dl).1 / 8 ^ (1 + 1)) gw = r := ⟨_, rfl⟩
        rw [hrr] at W ⊢
        have hbl : s.blocks.length ≤ gw.s.blocks.length := pre_len (a := s.blocks) (fun k b h => R.pre k b h)
        refine ⟨W.e, fun k b h => W.pre k b (R.pre k b h), by have := W.len; have h8 : gw.s.blocks.length ≤ s.blocks.length + 8 := R.len; omega, W.bd.trans R.bd, fun hb hroom => ?_⟩
        obtain ⟨f1, f2, f3, f4, f5, f6⟩ := R.full hb hroom
        obtain ⟨w1, w2, w3, w4⟩ := W.full (R.bd.trans hb) f2
        refine ⟨w1, w2, gw.now, ⟨by rw [updH_len]; exact ht.1, updH_ok ht.2.1 ha, W.ok w1, fun i q hq => (o2 i q hq).mono W.pre⟩, ?_, ?_, fun hm => (w3 hm).1, fun hm => ?_, f5, fun i p hch hp => f6 i p (by omega) hch hp⟩
        · by_cases hm : gw.now = mids
          · rw [(w3 hm).2.1, f3, if_pos hm, List.append_nil]
          · rw [(w4 hm).2.1, f3, if_neg hm, List.append_assoc]
        · by_cases hm : gw.now = mids
          · rw [(w3 hm).2.2, f4, if_pos hm, List.append_nil]
          · rw [(w4 hm).1, f4, if_neg hm, List.append_assoc]
            rfl
        · rcases (w4 hm).2.2 with h | h
          · exact .inl h
          · exact .inr (by omega)
      · have hend : endW 0 (1 + 1) root mids ((l.getD 0 dl).1 / 8 ^ (1 + 1)) gw = ⟨zeroP, gw.e, gw.s⟩ := by unfold endW; rw [if_pos he]
        rw [hend]
        refine ⟨R.e, fun k b h => R.pre k b h, by have h8 : gw.s.blocks.length ≤ s.blocks.length + 8 := R.len; show gw.s.blocks.length ≤ _; omega, R.bd, fun hb hroom => absurd (R.full hb hroom).1 he⟩
    · rw [if_pos (by omega), r1, rnS_eq]
      exact ⟨.inr (.inl rfl), fun k b h => h, Nat.le_add_right _ _, rfl, fun hb => absurd hb r2⟩
theorem grp_get {h : List Pt} {i k : Nat} (hk : k < 8) : (grp h i)[k]? = h[8 * i + k]? := by
  unfold grp
  rw [List.getElem?_take, if_pos hk, List.getElem?_drop]
theorem len_up {m : List Pt} {f : Nat → List Pt} {P : Pt → Bool} (hm : m.length = 8) (hf : ∀ i q, m[i]? = some q → (f i).length = if P q = true then 1 else 0) : ∀ (k a : Nat), a + k = 8 → ((m.drop a).filter P).length = (upFrom f a k).length
  | 0, a, h => by rw [List.drop_of_length_le (by omega), upFrom_zero]; rfl
  | k + 1, a, h => by
    obtain ⟨q, hq⟩ : ∃ q, m[a]? = some q := ⟨_, List.getElem?_eq_getElem (by omega)⟩
    have hd : m.drop a = q :: m.drop (a + 1) := by
      rw [List.getElem?_eq_getElem (by omega)] at hq
      rw [List.drop_eq_getElem_cons (by omega), Option.some.inj hq]
    rw [hd, upFrom_succ, List.length_append, ← len_up hm hf k (a + 1) (by omega), hf a q hq]
    cases hP : P q
    · rw [List.filter_cons_of_neg (by simp [hP])]; simp
    · rw [List.filter_cons_of_pos hP]; simp; omega
def cntG (hN : List Pt) (k : Nat) : Nat := ((List.range k).filter (fun g => decide (grp hN g ≠ holes))).length
end Go.Proofs.YtjgjohdeeeoeoaaGreatDoor
namespace Go.Proofs.YtjgjohdeeeoeoaaGreatDoor
open Go.RowKit
attribute [local go_sem] Oper.semAt_some
theorem tl_val {ops : Array Oper} {rest : List Oper} {o : Oper} {a : Act} {Q : Exit → Act → World → Prop} {S : World → Prop} {w : World} (v : Value) (hw : Region.wanted o (yielded ops a.tmps) = true) (hS : S w) (hrun : ∀ w, S w → (execOp a.eval o).run Tryz.prog w = .ok (.value v) w)
    (hK : wpList Tryz.prog ops Q rest (a.put o.dst v) w) : wpList Tryz.prog ops Q (o :: rest) a w := wpL_valG hw (hrun w hS) hK
theorem tl_skip {ops : Array Oper} {rest : List Oper} {o : Oper} {a : Act} {Q : Exit → Act → World → Prop} {w : World} (hw : Region.wanted o (yielded ops a.tmps) = false)
    (hK : wpList Tryz.prog ops Q rest (a.put o.dst undef) w) : wpList Tryz.prog ops Q (o :: rest) a w := by
  unfold wpList
  rw [if_neg (by simp [hw])]
  exact hK
theorem tl_call {ops : Array Oper} {rest : List Oper} {o : Oper} {a : Act} {Q : Exit → Act → World → Prop} {w : World} (hw : Region.wanted o (yielded ops a.tmps) = true) (f : FuncId) (args : Array Value) (hrun : (execOp a.eval o).run Tryz.prog w = .ok (.enter f args) w)
    (C : Value → World → Prop) (hc : Calls Tryz.prog f args w fun e w' => ∃ v, e = .returned v ∧ C v w') (hK : ∀ v w', C v w' → wpList Tryz.prog ops Q rest (a.put o.dst v) w') : wpList Tryz.prog ops Q (o :: rest) a w := by
  unfold wpList
  rw [if_pos hw]
  refine .inl ?_
  unfold Oper.wp
  rw [hrun]
  exact hc.mono fun e w' ⟨v, e1, h1⟩ => by subst e1; exact hK v w' h1
theorem ex_eqPb {ρ : Operand → Value} {o : Oper} {x y : Operand} {p q : Pt} {z : Bool} {w : World} (hz : eqP p q = z) (ho : o.op = .binOp .eql 28 x y 28) (hx : ρ x = .agg (pcells p).toArray) (hy : ρ y = .agg (pcells q).toArray) (hp : p.OK) (hq : q.OK) : (execOp ρ o).run Tryz.prog w = .ok (.value (.bool z)) w := hz ▸ ex_eqP ho hx hy hp hq
def RowB (e : TypeId) (size : Nat) (b : Bxs) (v : Value) (n : Nat) (xs : List Value) : Prop :=
  xs.length = n * size ∧ ((v = .slice none 0 0 ∧ n = 0 ∧ b = []) ∨ ∃ g cap cs, v = .slice (some ⟨g, 0, none⟩) n cap ∧ b = [(g, cs, e)] ∧ n ≤ cap ∧ cap ≤ maxLen ∧ cs.length = cap * size ∧ cs.take (n * size) = xs)
theorem RowB.of {X : World} {B : Nat} {e : TypeId} {size : Nat} {v : Value} {n : Nat} {xs : List Value} (h : X.ownsRow B e size v n xs) : ∃ b, RowB e size b v n xs ∧ ∀ y ∈ b, Blk X y.1 y.2.1 y.2.2 ∧ v.ownBlock = some y.1 := by
  obtain ⟨h1, h2⟩ := h
  rcases h2 with ⟨rfl, rfl⟩ | ⟨g, cap, cur, rfl, hb, hg, hc, hm, hs, ht⟩
  · exact ⟨[], ⟨h1, .inl ⟨rfl, rfl, rfl⟩⟩, fun y hy => by simp at hy⟩
  · refine ⟨[(g, cur.toList, e)], ⟨h1, .inr ⟨g, cap, cur.toList, rfl, rfl, hc, hm, by simpa using hs, ht⟩⟩, fun y hy => ?_⟩
    rw [List.mem_singleton] at hy
    subst hy
    exact ⟨by unfold Blk; simpa using hg, rfl⟩
theorem RowB.own {X : World} {e : TypeId} {size : Nat} {b : Bxs} {v : Value} {n : Nat} {xs : List Value} (h : RowB e size b v n xs) (hb : ∀ y ∈ b, Blk X y.1 y.2.1 y.2.2) : X.ownsRow 0 e size v n xs := by
  obtain ⟨h1, h2⟩ := h
  refine ⟨h1, ?_⟩
  rcases h2 with ⟨rfl, rfl, rfl⟩ | ⟨g, cap, cs, rfl, rfl, hc, hm, hs, ht⟩
  · exact .inl ⟨rfl, rfl⟩
  · exact .inr ⟨g, cap, cs.toArray, rfl, by omega, hb (g, cs, e) (by simp), hc, hm, by simpa using hs, by simpa using ht⟩
theorem Fr.row {w X : World} {D : Nat} {s : Sh} {bs : Bxs} (h : Fr w D s bs X) {e : TypeId} {size : Nat} {b : Bxs} {v : Value} {n : Nat} {xs : List Value} (hr : RowB e size b v n xs) (hs : ∀ y ∈ b, y ∈ bs) : X.ownsRow 0 e size v n xs := hr.own fun y hy => h.bx y (hs y hy)
theorem lrows_at : ∀ (l : List Lf) (i : Nat) (x : Lf), (∀ y ∈ l, Lf.OK y) → l[i]? = some x → ∀ j, j < 42 → (lrows l)[i * 42 + j]? = (lcells x)[j]?
  | [], i, x, _, h, _, _ => by simp at h
  | y :: l, 0, x, hq, h, j, hj => by
    simp only [List.getElem?_cons_zero, Option.some.injEq] at h
    subst h
    have := lcells_length (hq y (by simp)).2
    show (lcells y ++ lrows l)[0 * 42 + j]? = _
    rw [List.getElem?_append_left (by omega)]
    congr 1
    omega
  | y :: l, i + 1, x, hq, h, j, hj => by
    have h0 : l[i]? = some x := by simpa using h
    have hl := lcells_length (hq y (by simp)).2
    have ih := lrows_at l i x (fun z hz => hq z (by simp [hz])) h0 j hj
    show (lcells y ++ lrows l)[(i + 1) * 42 + j]? = _
    rw [List.getElem?_append_right (by omega), ← ih]
    congr 1
    omega
theorem OwnL.at {X : World} {B : Nat} {v : Value} {l : List Lf} (h : OwnL X B v l) (hok : ∀ x ∈ l, Lf.OK x) (h0 : 0 < l.length) : ∃ g cap, v = .slice (some ⟨g, 0, none⟩) l.length cap ∧ l.length ≤ cap ∧ ∀ i x, l[i]? = some x → X.rangeAt g (i * 42) (lcells x) := by
  obtain ⟨h1, h2⟩ := h
  rcases h2 with ⟨rfl, hn⟩ | ⟨g, cap, cur, rfl, hb, hg, hc, hm, hs, ht⟩
  · omega
  · refine ⟨g, cap, rfl, hc, fun i x hx j u hu => ?_⟩
    have hB : Blk X g cur.toList 110 := by unfold Blk; simpa using hg
    have hi := (List.getElem?_eq_some_iff.1 hx).1
    have hj : j < 42 := by
      have := (List.getElem?_eq_some_iff.1 hu).1
      rw [lcells_length (hok x (List.mem_of_getElem? hx)).2] at this
      exact this
    have h3 := lrows_at l i x hok hx j hj
    rw [hu, ← ht, List.getElem?_take] at h3
    split at h3
    · exact hB.cell h3
    · cases h3
theorem TaW.none {L : Nat → Nat} {w : World} {D : Nat} {ls : List Lf} {lv : Value} {s : Sh} {l : List Itm} {b : List Pt} {ov nv : Value} {X : World} (h : TaW L w D ls lv s l b ov nv X) : TaW L w D ls lv s [] [] (.slice none 0 0) (.slice none 0 0) X := by
  obtain ⟨⟨L1, v1, h1, h2, h3, h4, h5⟩, k1, k2, k3, k4, k5⟩ := h
  exact ⟨⟨L1, v1, h1, h2, h3, (fun g e => by cases e), (fun g e => by cases e)⟩, k1, ⟨rfl, .inl ⟨rfl, rfl⟩⟩, ⟨rfl, .inl ⟨rfl, rfl⟩⟩, (fun g e => by cases e), (fun g e => by cases e)⟩
theorem rdB_tbS (s : Sh) (p q : Pt) : rdB (tbS s p) q = rdB s q := by
  unfold tbS
  split
  · rfl
  · rfl
def TalPost (L : Nat → Nat) (w : World) (D : Nat) (s : Sh) (p : Pt) (m : Nat) (e : Ending) (Y : World) : Prop :=
  ∃ ov nv lv ls, e = .returned (.tuple #[ov, nv, .int .i64 ((taAll s p).e : Int)]) ∧ TaW L w D ls lv (taAll s p).s (taAll s p).l (taAll s p).b ov nv Y ∧ Lim m (taAll s p).s
set_option maxRecDepth 100000 in
set_option maxHeartbeats 16000000 in
theorem tbAll_any {w : World} {L : Nat → Nat} {D : Nat} {s : Sh} {v : Sv} {m : Nat} (p : Pt) (hp : p.OK) (h : ShAt w L D s v) (hlo : Lo L) (hk : Lim m s) (hm : m + 173 < 100000000) (hbl : ∀ q, (rdB (allS s p) q).length ≤ 100000) (hoff : ∀ x ∈ allL s p, x.1 < 16000) (hn : (allL s p).length ≤ 100) (hnn : (allN s p).length ≤ 1000) :
    Calls Tryz.prog 21 #[shI D, .agg (pcells p).toArray] w (TalPost L w D s p (m + 173)) := by
  have HPO := Lib.hid hp; have HLO := Lib.hid hlo; have HK := Lib.hid hk; have HM := Lib.hid hm; have HBL := Lib.hid hbl; have HOF := Lib.hid hoff; have HN := Lib.hid hn; have HNN := Lib.hid hnn
  have hw1 : Below w.heap.size w (w.alloc (.cells (pcells p).toArray 28)) := (Below.refl _ _).alloc (Nat.le_refl _) _
  have HB1 := Lib.hid hw1
  have HLT := Lib.hid h.lt
  have HS1 := Lib.hid (h.below hw1)
  have HBX : Hid (Blk (w.alloc (.cells (pcells p).toArray 28)) w.heap.size (pcells p) 28) := Lib.hid (Blk.new _ _ _)
  generalize hPost : TalPost L w D s p (m + 173) = Post
  have HP : Hid (∀ ov nv lv ls Y, TaW L w D ls lv (taAll s p).s (taAll s p).l (taAll s p).b ov nv Y → Lim (m + 173) (taAll s p).s → Post (.returned (.tuple #[ov, nv, .int .i64 ((taAll s p).e : Int)])) Y) := Lib.hid fun ov nv lv ls Y h1 h2 => by rw [← hPost]; exact ⟨ov, nv, lv, ls, rfl, h1, h2⟩
  obtain ⟨R, hR⟩ : ∃ r, taAll s p = r := ⟨_, rfl⟩
  have HR := Lib.hid hR
  rw [hR] at HP
  have HAL := Lib.hid (trAll_any p hp (h.below hw1) hlo hk (show m + 73 < 100000000 by omega))
  clear hp h hlo hk hm hbl hoff hn hnn hw1 hPost hR
  unfold shI at HAL ⊢
  go_enter Tryz.func21, Tryz.ntmps21
  go_upto_region 1 with fail
  obtain ⟨W, hW⟩ : ∃ W, w.alloc (.cells (pcells p).toArray 28) = W := ⟨_, rfl⟩
  rw [hW] at HB1 HS1 HBX HAL ⊢
  clear hW
  go_wp2_with (first | (refine wpL_val rfl (ex_ldP HPO.out HBX.out rfl rfl) ?_) | fail)
  refine HAL.out.mono ?_
  rintro e Y ⟨lv, nv, rfl, haw, hlm⟩
  have HT : Hid (TaW L w D (allL s p) lv (allS s p) [] (allN s p) (.slice none 0 0) nv Y) := Lib.hid (by
    obtain ⟨⟨L2, v2, k1, k2, k3, k4⟩, j1, j2, -, -⟩ := haw
    exact ⟨⟨L2, v2, k1, (Mv.of_below HB1.out HLT.out).trans k2, k3, (fun g e => by cases e), k4⟩, j1.1, ⟨rfl, .inl ⟨rfl, rfl⟩⟩, j2.1, (fun g e => by cases e), fun g e => Nat.le_trans HB1.out.size (j2.2 g e)⟩)
  have HOK := Lib.hid haw.okl
  have HLM : Hid (Lim (m + 73) (allS s p)) := Lib.hid hlm
  obtain ⟨sp, cap, hlv, hcap, -⟩ := owns_form haw.lo.1
  clear haw hlm HAL HS1 HBX HB1
  have HR2 : Hid (R = if allE s p ≠ 0 then ⟨allE s p, allS s p, [], []⟩ else taGo (allL s p) (allS s p) [] (allN s p)) := Lib.hid (by rw [← HR.out]; rfl)
  clear HR
  obtain ⟨ae, hae⟩ : ∃ r, allE s p = r := ⟨_, rfl⟩
  obtain ⟨s0, hs0⟩ : ∃ r, allS s p = r := ⟨_, rfl⟩
  obtain ⟨ls, hls⟩ : ∃ r, allL s p = r := ⟨_, rfl⟩
  obtain ⟨b0, hb0⟩ : ∃ r, allN s p = r := ⟨_, rfl⟩
  rw [hae, hs0, hls, hb0] at HR2
  rw [hae]
  rw [hs0, hls, hb0] at HT
  rw [hs0] at HLM HBL
  rw [hls] at HOK HOF HN hlv hcap
  rw [hb0] at HNN
  clear hae hs0 hls hb0
  obtain ⟨N, hN⟩ : ∃ N, ls.length = N := ⟨_, rfl⟩
  rw [hN] at hlv hcap HN
  have HLN := Lib.hid hN
  have HCP := Lib.hid hcap
  subst hlv
  clear hN hcap
  by_cases hae : ae = 0
  · subst hae
    have HRG : Hid (R = taGo ls s0 [] b0) := Lib.hid (by rw [HR2.out, if_neg (by simp)])
    clear HR2
    rw [show ((0 : Nat) : Int) = (0 : Int) from rfl]
    go_wp2_with fail
    go_loopw [8, 10, 27] (fun nv ov i wr => ∃ (k : Nat) (sk : Sh) (lk : List Itm) (bk : List Pt), k ≤ N ∧ i = .int .i64 (k : Int) ∧ TaW L w D ls (.slice sp N cap) sk lk bk ov nv wr ∧ R = taGo (ls.drop k) sk lk bk ∧ Lim (m + 73 + k) sk ∧ (∀ q, (rdB sk q).length ≤ 100000) ∧ lk.length ≤ 4 * k ∧ bk.length ≤ 1000 + k) (fun _ _ i _ => N - (intOf i).toNat)
    case atStart => exact ⟨0, s0, [], b0, by omega, rfl, HT.out, HRG.out, HLM.out, HBL.out, by simp, by have := HNN.out; omega⟩
    case round =>
      clear HT HRG HLM HBL
      obtain ⟨k, sk, lk, bk, hk, rfl, ht, hr, hlm, hrb, hll, hbb⟩ := hrel
      obtain ⟨spo, capo, hov, -⟩ := owns_form ht.oo
      subst hov
      obtain ⟨spn, capn, hnv, -⟩ := owns_form ht.no
      subst hnv
      have HT := Lib.hid ht; have HRK := Lib.hid hr; have HLM := Lib.hid hlm; have HRB := Lib.hid hrb; have HLL := Lib.hid hll; have HBB := Lib.hid hbb
      clear ht hr hlm hrb hll hbb
      have wk1 := IntWalk.i64_in ((k : Int) + 1) (by have := HN.out; omega)
      by_cases hlt : k < N
      · obtain ⟨x, hx⟩ : ∃ x, ls[k]? = some x := ⟨_, List.getElem?_eq_getElem (by have := HLN.out; omega)⟩
        obtain ⟨g, cap', e, hc', hat⟩ := HT.out.lo.at HOK.out (by have := HLN.out; omega)
        injection e with e1 e2 e3
        subst e1
        have HXO : Hid (Lf.OK x) := Lib.hid (HOK.out x (List.mem_of_getElem? hx))
        have HXF : Hid (x.1 < 16000) := Lib.hid (HOF.out x (List.mem_of_getElem? hx))
        have HRG := Lib.hid (hat k x hx)
        have HDR : Hid (R = taGo (x :: ls.drop (k + 1)) sk lk bk) := Lib.hid (by rw [HRK.out, drop_atT hx])
        have HSZ : Hid ((Tryz.prog.info? 110).map (·.size) = some (lcells x).toArray.size) := Lib.hid (by rw [List.size_toArray, lcells_length HXO.out.2]; exact sizeLf)
        have HLZ : Hid ((lcells x).toArray.size = 42) := Lib.hid (by rw [List.size_toArray, lcells_length HXO.out.2])
        have hcn : ¬ N ≤ k := by omega
        have hcc : N ≤ cap := HCP.out
        clear hx hat hc' e2 e3 HRK
        go_upto_region 8 with (first | (refine wpL_val rfl (ex_ld (ty := 110) (cs := lcells x) rfl rfl (by have := HRG.out; first | exact this | simpa using this) Tryz.underlying110 rfl (by rw [sizeLf, lcells_length HXO.out.2])) ?_) | (refine wpList_store_row rfl 110 (.tmp 12) (.tmp 30) rfl wr.heap.size (lcells x).toArray rfl rfl 110 _ (heap_alloc_new wr _) HSZ.out (by rw [HLZ.out]; rfl) (one_lc x) ?_) | fail)
        refine (fun (k : ∀ W, Blk W wr.heap.size (lcells x) 110 → Below wr.heap.size wr W → Code.wp _ _ _ _ W) => k _ (blk_row1 wr _ (lcells x) 110).1 (blk_row1 wr _ (lcells x) 110).2) ?_
        intro W5 hx5 hb5
        obtain ⟨L1, v1, h1, hcall⟩ := HT.out.call
        have hrd := tbRead_any x.2 HXO.out.2 (h1.below hb5) HLM.out (HRB.out x.2)
        have hcl := fun s2 Y hs => hcall s2 W5 Y hb5 hs
        obtain ⟨B, hB⟩ : ∃ B, wr.heap.size = B := ⟨_, rfl⟩
        rw [hB] at hx5 hcl ⊢
        obtain ⟨ns, hns⟩ : ∃ r, tbN sk x.2 = r := ⟨_, rfl⟩
        obtain ⟨er, her⟩ : ∃ r, tbE sk x.2 = r := ⟨_, rfl⟩
        obtain ⟨s2, hs2⟩ : ∃ r, tbS sk x.2 = r := ⟨_, rfl⟩
        have HNS : Hid (BOK ns) := Lib.hid (by rw [← hns]; exact tbN_ok _ _)
        have HLM2 : Hid (Lim (m + 73 + (k + 1)) s2) := Lib.hid (by rw [← hs2]; exact HLM.out.tbS (by have := HM.out; have := HN.out; omega))
        have HRB2 : Hid (∀ q, (rdB s2 q).length ≤ 100000) := Lib.hid (fun q => by rw [← hs2, rdB_tbS]; exact HRB.out q)
        have HD2 : Hid (R = if er ≠ 0 then ⟨er, s2, [], []⟩ else taGo (ls.drop (k + 1)) s2 (lk ++ itmK x.1 ns 4) (bk ++ [x.2])) := Lib.hid (by
          rw [← hns, ← her, ← hs2]
          by_cases q : tbE sk x.2 = 0
          · rw [if_neg (by simp [q]), HDR.out, taGo_ok q]
          · rw [if_pos q, HDR.out, taGo_err q])
        unfold TbPost at hrd
        rw [hns, her, hs2] at hrd
        have HRD : Hid (Calls Tryz.prog 46 #[shI D, .agg (pcells x.2).toArray] W5 fun e Y => e = .returned (.tuple #[.agg (bcells ns).toArray, .int .i64 (er : Int)]) ∧ ShPost 5 L1 W5 D s2 Y) := Lib.hid hrd
        have HCL : Hid (∀ Y, ShPost 5 L1 W5 D s2 Y → TaW L w D ls (.slice (some ⟨g, 0, none⟩) N cap) s2 lk bk (.slice spo lk.length capo) (.slice spn bk.length capn) Y ∧ Blk Y B (lcells x) 110) := Lib.hid (fun Y hs => ⟨(hcl s2 Y hs).1, (hcl s2 Y hs).2 B _ _ (Nat.le_refl _) hx5⟩)
        have HX5 := Lib.hid hx5
        have HST := Lib.hid (size_bcB HNS.out)
        have HSA : Hid ((bcells ns).toArray.size = 176) := Lib.hid HNS.out.size
        clear hx5 hb5 h1 hcall hrd hcl hB hns her hs2 HLM HRB HDR HRG HT
        unfold shI at HRD
        go_wp2_with (first | (refine wpL_val rfl (ex_ld (ty := 28) (cs := pcells x.2) rfl rfl (rng_ptr (rng_all HX5.out)) Tryz.underlying28 rfl (by rw [sizeP, pcells_length HXO.out.2])) ?_) | fail)
        refine HRD.out.mono ?_
        rintro e X6 ⟨rfl, hsp⟩
        have HT6 := Lib.hid (HCL.out X6 hsp).1
        have HX6 := Lib.hid (HCL.out X6 hsp).2
        clear hsp HRD HCL HX5
        go_upto_region 9 with (first | (refine wpList_store_row rfl 104 (.tmp 13) (.tmp 36) rfl X6.heap.size (bcells ns).toArray rfl rfl 104 _ (heap_alloc_new X6 _) HST.out (by rw [HSA.out]; rfl) (bcells_one ns) ?_) | fail)
        refine (fun (k : ∀ W, Blk W X6.heap.size (bcells ns) 104 → Below X6.heap.size X6 W → Code.wp _ _ _ _ W) => k _ (blk_row1 X6 _ (bcells ns) 104).1 (blk_row1 X6 _ (bcells ns) 104).2) ?_
        intro X7 hx7 hb7
        have HT7 := Lib.hid (HT6.out.below hb7)
        have HX7 := Lib.hid (HX6.out.below hb7 HX6.out.lt)
        obtain ⟨g7, hg7⟩ : ∃ g, X6.heap.size = g := ⟨_, rfl⟩
        rw [hg7] at hx7 ⊢
        have HI7 := Lib.hid hx7
        clear hx7 hb7 hg7 HT6 HX6
        by_cases h0 : er = 0
        · subst h0
          have HD3 : Hid (R = taGo (ls.drop (k + 1)) s2 (lk ++ itmK x.1 ns 4) (bk ++ [x.2])) := Lib.hid (by rw [HD2.out, if_neg (by simp)])
          have c0 := HX7.out.cell (j := 0) rfl
          obtain ⟨xo, hxo⟩ : ∃ n, x.1 = n := ⟨_, rfl⟩
          rw [hxo] at c0 HD3 HXF
          clear hxo HD2
          rw [show ((0 : Nat) : Int) = (0 : Int) from rfl]
          go_wp2_with (first | (refine wpL_val rfl (ex_ldBn HNS.out HI7.out rfl rfl) ?_) | fail)
          refine (tbItems_any xo HXF.out ns HNS.out X7).mono ?_
          rintro e X8 ⟨ov2, rfl, hb8, ho8⟩
          have hT8 := HT7.out.below hb8
          have hX8 := HX7.out.below hb8 HX7.out.lt
          obtain ⟨ov9, w9, hr9, hT9, hk9⟩ := hT8.app ho8 (by have := HLL.out; have := itmK_len xo ns 4; have := HN.out; omega) 55
          have hX9 := hk9 _ _ _ (by decide) hX8
          obtain ⟨nv10, w10, hr10, hT10⟩ := hT9.appP (q := x.2) ((Below.refl w9.heap.size w9).alloc (Nat.le_refl _) (.cells (pcells x.2).toArray 28)) HXO.out.2 (Blk.new w9 (pcells x.2) 28) (by have := HBB.out; have := HN.out; omega) 48
          have HR9 := Lib.hid hr9; have HX9 := Lib.hid hX9; have HR10 := Lib.hid hr10; have HT10 := Lib.hid hT10
          clear hT8 hX8 hr9 hT9 hk9 hX9 hr10 hT10 hb8 ho8 c0 HT7 HX7 HI7
          go_wp2_with (first | (at_builtin; refine wpL_val rfl (ex_appTm rfl rfl rfl HR9.out) ?_) | (refine wpL_val rfl (ex_ld (ty := 28) (cs := pcells x.2) rfl rfl (rng_ptr (rng_all HX9.out)) Tryz.underlying28 rfl (by rw [sizeP, pcells_length HXO.out.2])) ?_) | (refine wpL_val rfl (q_one x.2 rfl rfl HXO.out.2) ?_) | (at_builtin; refine wpL_val rfl (ex_appP rfl rfl rfl HR10.out) ?_) | fail)
          go_roundw
          case rel => exact ⟨k + 1, s2, _, _, by omega, by go_num, HT10.out, HD3.out, HLM2.out, HRB2.out, by have := HLL.out; have := itmK_len xo ns 4; rw [List.length_append]; omega, by have := HBB.out; rw [List.length_append, List.length_singleton]; omega⟩
          case measure => simp [intOf]; omega
        · have h0' : ¬ (er : Int) = 0 := by omega
          have HD3 : Hid (R = ⟨er, s2, [], []⟩) := Lib.hid (by rw [HD2.out, if_pos h0])
          have HE := Lib.hid (HP.out (.slice none 0 0) (.slice none 0 0) _ ls X7 (by rw [HD3.out]; exact HT7.out.none) (by rw [HD3.out]; exact HLM2.out.mono (by have := HN.out; omega) HM.out))
          have HER : Hid (R.e = er) := Lib.hid (by rw [HD3.out])
          rw [HER.out] at HE
          clear h0 HD2 HD3 HP HER
          go_wp2_with fail
          first | exact HE.out | (go_ret; exact HE.out)
      · obtain rfl : k = N := by omega
        have HD3 : Hid (R = ⟨0, sk, lk, bk⟩) := Lib.hid (by rw [HRK.out, List.drop_of_length_le (by have := HLN.out; omega)]; rfl)
        have HE := Lib.hid (HP.out _ _ _ ls wr (by rw [HD3.out]; exact HT.out) (by rw [HD3.out]; exact HLM.out.mono (by have := HN.out; omega) HM.out))
        have HER : Hid ((R.e : Int) = 0) := Lib.hid (by rw [HD3.out]; rfl)
        rw [HER.out] at HE
        clear hlt hk HD3 HP HER HRK HT
        go_wp2_with fail
        first | exact HE.out | (go_ret; exact HE.out)
  · have h0' : ¬ (ae : Int) = 0 := by omega
    have HD3 : Hid (R = ⟨ae, s0, [], []⟩) := Lib.hid (by rw [HR2.out, if_pos hae])
    have HE := Lib.hid (HP.out (.slice none 0 0) (.slice none 0 0) _ ls Y (by rw [HD3.out]; exact HT.out.none) (by rw [HD3.out]; exact HLM.out.mono (by omega) HM.out))
    have HER : Hid (R.e = ae) := Lib.hid (by rw [HD3.out])
    rw [HER.out] at HE
    clear hae HR2 HD3 HP HER HT
    go_wp2_with fail
    first | exact HE.out | (go_ret; exact HE.out)
end Go.Proofs.YtjgjohdeeeoeoaaGreatDoor
namespace Go.Proofs.YtjgjohdeeeoeoaaGreatDoor
open Go.RowKit
end Go.Proofs.YtjgjohdeeeoeoaaGreatDoor
